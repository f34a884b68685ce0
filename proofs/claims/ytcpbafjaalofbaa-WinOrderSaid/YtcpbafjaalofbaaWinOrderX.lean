/- WinOrder: for all arguments the call returns true. The law is brought to a function of Lean's own (W_..) by the machine of the texts beside it, and that is reckoned; no condition. -/
import Derived.Test.YtcpbafjaalofbaaExtIn
import Derived.Test.YtcpbafjaalofbaaExtCm
import Derived.Test.YtcpbafjaalofbaaRows
import Derived.WalkKit
import Derived.ProofKit
import Derived.OpenShut
import Derived.ShutString
import Derived.ChangeOld
import Derived.Below
import Derived.Shelf.RegionOpenPlain
import Derived.Deep.RegionLaw
import Derived.Lib.Walk
namespace Go.Proofs.Ytcpbafjaalofbaa.winOrderX
open Go.Abs Go.RowKit Go.ChangeShapes Go.WideShapes Go.ChangeAt
set_option maxRecDepth 100000
set_option linter.unusedVariables false
set_option linter.unusedSimpArgs false
noncomputable abbrev P0 : Program := Try.prog
noncomputable def bodyOf (fn : Func) : Code := fn.body.getD .skip
def L0 : Lend := fun f => aget [] [(34, [0]), (36, [0]), (40, [0]), (84, [0])] f
def kpL (l : List Bool) : Nat → Bool := fun j => l.getD j true
theorem own : ownKnob Try.prog.godebug = none := by kernel_rfl
theorem laidOut : laidOutB Try.prog = true := by kernel_rfl
theorem mixed : P0.follows .mixedOrders = true := by decide +kernel
theorem progOk_ : progOk P0 = true := by decide +kernel
set_option linter.unusedSimpArgs false
set_option linter.unusedVariables false

theorem iqU34 : Try.prog.underlying 24 = some (.slice 28) := by kernel_rfl
theorem iqI34 : Try.prog.underlying 3 = some (.int .i64) := by kernel_rfl
theorem iqE34 : ∃ (inf : TypeInfo) (z : Value), Try.prog.info? 28 = some inf ∧ inf.size = 3 ∧ inf.zero = some z ∧ z.cells.size = 3 ∧ inf.bytes = 24 := insE_of (by kernel_rfl)
set_option maxHeartbeats 4000000 in
theorem iqShift34 {inf : TypeInfo} (hinf : Try.prog.info? 28 = some inf) (hsz : inf.size = 3) (w : World) (b i n c vb vo vc : Nat) (arr : Array Value) (tb : Nat) (fz : Nat × Nat) (cs vs : List Value) (hmem : w.heap[b]? = some (.cells arr tb fz)) (hf : ∀ j, j < arr.size → ¬ (fz.1 ≤ j ∧ j < fz.2))
    (hi : i < n) (hroom : n + 1 ≤ c) (hsize : arr.size = c * 3) (hby : (n + 1) * 24 ≤ 140737488355328) (hbn : vb ≠ b)
    (hcs : cs = (arr.toList.take (n * 3)).drop (i * 3)) (hvl : vs.length = 3) (hvs : ∀ (j : Nat) (u : Value), vs[j]? = some u → w.cell? ⟨vb, vo + j, none⟩ = some u) (h1c : ∀ u ∈ cs, u.oneCell' = true) (h1v : ∀ u ∈ vs, u.oneCell' = true)
    (hov : ∀ y, (callFunc 62 #[.slice (some ⟨vb, vo, none⟩) 1 vc, .slice (some ⟨b, (i + 1) * 3, none⟩) (n - i) y]).run Try.prog w = .ok (.value (.bool false)) w) (A1 A2 : Array Value)
    (hA1 : A1 = (arr.toList.take ((i + 1) * 3) ++ (cs ++ arr.toList.drop ((i + 1) * 3 + cs.length))).toArray) (hA2 : A2 = (A1.toList.take (i * 3) ++ (vs ++ A1.toList.drop (i * 3 + vs.length))).toArray) :
    Calls Try.prog 34 #[.slice (some ⟨b, 0, none⟩) n c, .int .i64 (i : Nat), .slice (some ⟨vb, vo, none⟩) 1 vc] w fun e w' => e = .returned (.slice (some ⟨b, 0, none⟩) (n + 1) c) ∧ w' = (w.drew.setRow b A1).setRow b A2 := by
  have mixed := mixed
  have hz2 : ¬ ((i : Int) = (n : Int)) := by omega
  have hw1 : IntKind.i64.wrap ((i : Int) + (1 : Int)) = (i : Int) + (1 : Int) := by rw [IntKind.wrap_i64]; omega
  have hw2 : IntKind.i64.wrap ((n : Int) + (1 : Int)) = (n : Int) + (1 : Int) := by rw [IntKind.wrap_i64]; omega
  have hcl : cs.length = (n - i) * 3 := by rw [hcs]; simp; omega
  have hA1s : A1.size = arr.size := by rw [hA1]; simp [hcl]; omega
  have hcp1 : ∀ ty dc sc, (Builtin.copy_ #[24, 24] ty #[.slice (some ⟨b, (i + 1) * 3, none⟩) (n - i) dc, .slice (some ⟨b, i * 3, none⟩) (n + 1 - i) sc]).run Try.prog w.drew = .ok (.int .i64 ((n - i : Nat) : Int)) (w.drew.setRow b A1) := fun ty dc sc => by
    rw [hA1]
    refine run_copyR iqU34 hinf w.drew (fz := fz) hmem hf _ _ _ (m := n + 1 - i) (k := n - i) (by omega) (lenOf_slice _ _ _ _) (run_firstCells_some w.drew _ _ _ _ _ _ (by rw [hsz]; exact hcl) (fun j v hj => ?_)) (by omega) h1c
    rw [hcs, List.getElem?_drop, List.getElem?_take] at hj
    split at hj
    · have : (⟨b, i * 3, none⟩ : Addr).add j = ⟨b, i * 3 + j, none⟩ := by unfold Addr.add; split <;> simp_all
      rw [this]
      have e : w.drew.cell? ⟨b, i * 3 + j, none⟩ = arr[i * 3 + j]? := by simp [World.cell?, show w.drew.heap = w.heap from rfl, hmem]
      rw [e]; simpa using hj
    · cases hj
  have hcp2 : ∀ (W : World), W.heap = (w.drew.setRow b A1).heap → ∀ ty dc, (Builtin.copy_ #[24, 24] ty #[.slice (some ⟨b, i * 3, none⟩) (n + 1 - i) dc, .slice (some ⟨vb, vo, none⟩) 1 vc]).run Try.prog W = .ok (.int .i64 ((1 : Nat) : Int)) (W.setRow b A2) := fun W hW ty dc => by
    rw [hA2]
    have hm1 : W.heap[b]? = some (.cells A1 tb fz) := by rw [hW]; exact setRow_heap w.drew b arr A1 tb fz hmem
    refine run_copyR iqU34 hinf W (fz := fz) hm1 (by rw [hA1s]; exact hf) _ _ _ (m := 1) (k := 1) (by omega) (lenOf_slice _ _ _ _) (run_firstCells_some W _ _ _ _ _ _ (by rw [hsz]; exact hvl) (fun j v hj => ?_)) (by omega) h1v
    have : (⟨vb, vo, none⟩ : Addr).add j = ⟨vb, vo + j, none⟩ := by unfold Addr.add; split <;> simp_all
    rw [this]
    have e : W.cell? ⟨vb, vo + j, none⟩ = w.cell? ⟨vb, vo + j, none⟩ := cell_congr (by rw [hW]; exact setRow_other w.drew b vb A1 hbn)
    rw [e]; exact hvs j v hj
  have hb1 : (0 : Int) ≤ (i : Int) + 1 := by omega
  have hin : i ≤ n := by omega
  have hb2 : ¬ (c = i + 1) := by omega
  have hb4 : ¬ (c = i) := by omega
  have hb3 : (i : Int) ≤ (n : Int) + 1 := by omega
  clear hcs hA1 hA2
  go_enter Try.func34, Try.ntmps34
  go_wp2_with (simp only [hov])
  go_region_law_o (refine step_copy_runR rfl _ _ 24 24 rfl _ _ (by simp [Act.eval, Act.put]) (by simp [Act.eval, Act.put]) (hcp1 _ _ _) ?_)
  go_wp2_with (at_builtin; refine wpList_copy_runR _ rfl _ _ 24 24 rfl _ _ rfl rfl (hcp2 _ rfl _ _) ?_)
  go_ret
  exact ⟨rfl, rfl⟩
set_option maxHeartbeats 4000000 in
theorem iqGrow34 {inf : TypeInfo} {z : Value} (hinf : Try.prog.info? 28 = some inf) (hsz : inf.size = 3) (hzz : inf.zero = some z) (hzs : z.cells.size = 3) (hbb : inf.bytes = 24) (w : World) (b i n c vb vo vc : Nat) (arr : Array Value) (tb : Nat) (fz : Nat × Nat) (cs vs : List Value) (hmem : w.heap[b]? = some (.cells arr tb fz))
    (hi : i < n) (hnc : n ≤ c) (hroom : ¬ (n + 1 ≤ c)) (hsize : arr.size = c * 3) (hby : (n + 1) * 24 ≤ 140737488355328) (va : Array Value) (tv : Nat) (fv : Nat × Nat) (hmemv : w.heap[vb]? = some (.cells va tv fv))
    (hcs : cs = (arr.toList.take (n * 3)).drop (i * 3)) (hvl : vs.length = 3) (hvs : ∀ (j : Nat) (u : Value), vs[j]? = some u → va[vo + j]? = some u) (h1c : ∀ u ∈ cs, u.oneCell' = true) (h1v : ∀ u ∈ vs, u.oneCell' = true)
    (G : Nat) (hG : G = grownCap w (n + 1) c 28) (ROW A1 A2 : Array Value)
    (hROW : ROW = (arr.toList.take (i * 3)).toArray ++ Builtin.zeroCells z.cells (n + 1 - i) ++ Builtin.zeroCells z.cells (G - (n + 1)))
    (hA1 : A1 = (ROW.toList.take (i * 3) ++ (vs ++ ROW.toList.drop (i * 3 + vs.length))).toArray) (hA2 : A2 = (A1.toList.take ((i + 1) * 3) ++ (cs ++ A1.toList.drop ((i + 1) * 3 + cs.length))).toArray) :
    Calls Try.prog 34 #[.slice (some ⟨b, 0, none⟩) n c, .int .i64 (i : Nat), .slice (some ⟨vb, vo, none⟩) 1 vc] w fun e w' => e = .returned (.slice (some ⟨w.heap.size, 0, none⟩) (n + 1) G) ∧ w' = (((w.drew.alloc (.cells ROW 28)).setRow w.heap.size A1).drew).setRow w.heap.size A2 := by
  have mixed := mixed
  have hz2 : ¬ ((i : Int) = (n : Int)) := by omega
  have hw1 : IntKind.i64.wrap ((i : Int) + (1 : Int)) = (i : Int) + (1 : Int) := by rw [IntKind.wrap_i64]; omega
  have hw2 : IntKind.i64.wrap ((n : Int) + (1 : Int)) = (n : Int) + (1 : Int) := by rw [IntKind.wrap_i64]; omega
  have hw3 : IntKind.i64.wrap ((n : Int) + (1 : Int) - (i : Int)) = (n : Int) + (1 : Int) - (i : Int) := by rw [IntKind.wrap_i64]; omega
  have hcl : cs.length = (n - i) * 3 := by rw [hcs]; simp; omega
  have hGn : n + 1 ≤ G := by rw [hG]; exact grownCap_ge w _ _ _
  have hbw : b < w.heap.size := (Array.getElem?_eq_some_iff.1 hmem).1
  have hvw : vb < w.heap.size := (Array.getElem?_eq_some_iff.1 hmemv).1
  have hzc : ∀ k, (Builtin.zeroCells z.cells k).size = k * 3 := fun k => by rw [size_zeroCells, hzs]
  have hRs : ROW.size = G * 3 := by
    rw [hROW]; simp only [Array.size_append, hzc, List.size_toArray, List.length_take, Array.length_toList]; omega
  have hA1s : A1.size = ROW.size := by rw [hA1]; simp [hvl]; omega
  have hold : (Builtin.firstCells inf.size i (.slice (some ⟨b, 0, none⟩) i c)).run Try.prog w.drew = .ok (arr.toList.take (i * 3)).toArray w.drew := by
    rw [hsz]
    refine run_firstCells_some w.drew 3 i ⟨b, 0, none⟩ i c (arr.toList.take (i * 3)) (by rw [List.length_take]; simp; omega) (fun j v hj => ?_)
    rw [List.getElem?_take] at hj
    split at hj
    · have : (⟨b, 0, none⟩ : Addr).add j = ⟨b, j, none⟩ := by unfold Addr.add; split <;> simp_all
      rw [this]
      have e : w.drew.cell? ⟨b, j, none⟩ = arr[j]? := by simp [World.cell?, show w.drew.heap = w.heap from rfl, hmem]
      rw [e]; simpa using hj
    · cases hj
  have hik : i + (n + 1 - i) = n + 1 := by omega
  have hkk : (n : Int) + 1 - (i : Int) = ((n + 1 - i : Nat) : Int) := by omega
  obtain ⟨W1, hW1⟩ : ∃ W1, W1 = w.drew.alloc (.cells ROW 28) := ⟨_, rfl⟩
  have hrz : ∀ ty, (Builtin.append_ #[24, 3] ty #[.slice (some ⟨b, 0, none⟩) i c, .int .i64 ((n : Int) + 1 - (i : Int))]).run Try.prog w = .ok (.slice (some ⟨w.heap.size, 0, none⟩) (n + 1) G) W1 := fun ty => by
    have hnx := nextslicecap_le (need := n + 1) (old := c) (by omega)
    have h := Lib.run_append_grow_zeros w 24 3 ty 28 inf z .i64 .i64 iqU34 iqI34 hinf hzz (some ⟨b, 0, none⟩) i c (arr.toList.take (i * 3)) hold (n + 1 - i) (by omega) (by omega) (by omega) (by omega) (by rw [hbb]; omega) (by rw [hbb, hik]; omega)
    rw [hik, ← hG, ← hROW, ← hW1] at h
    rw [hkk]
    exact h
  have hWn : W1.heap[w.heap.size]? = some (.cells ROW 28 (0, 0)) := by rw [hW1]; exact heap_alloc_new w.drew _
  have hWo : ∀ j, j < w.heap.size → W1.heap[j]? = w.heap[j]? := fun j hj => by rw [hW1]; exact heap_alloc_old w.drew _ hj
  have hcp1 : ∀ (W : World), W.heap = W1.heap → ∀ ty dc, (Builtin.copy_ #[24, 24] ty #[.slice (some ⟨w.heap.size, i * 3, none⟩) (n + 1 - i) dc, .slice (some ⟨vb, vo, none⟩) 1 vc]).run Try.prog W = .ok (.int .i64 ((1 : Nat) : Int)) (W.setRow w.heap.size A1) := fun W hW ty dc => by
    rw [hA1]
    refine run_copyR iqU34 hinf W (fz := (0, 0)) (by rw [hW]; exact hWn) (fun j _ hj => by simp at hj) _ _ _ (m := 1) (k := 1) (by omega) (lenOf_slice _ _ _ _) (run_firstCells_some W _ _ _ _ _ _ (by rw [hsz]; exact hvl) (fun j v hj => ?_)) (by omega) h1v
    have : (⟨vb, vo, none⟩ : Addr).add j = ⟨vb, vo + j, none⟩ := by unfold Addr.add; split <;> simp_all
    rw [this]
    have e : W.cell? ⟨vb, vo + j, none⟩ = va[vo + j]? := by simp [World.cell?, hW, hWo vb hvw, hmemv]
    rw [e]; exact hvs j v hj
  have hcp2 : ∀ (W : World), W.heap = (W1.setRow w.heap.size A1).heap → ∀ ty dc sc, (Builtin.copy_ #[24, 24] ty #[.slice (some ⟨w.heap.size, (i + 1) * 3, none⟩) (n - i) dc, .slice (some ⟨b, i * 3, none⟩) (n - i) sc]).run Try.prog W = .ok (.int .i64 ((n - i : Nat) : Int)) (W.setRow w.heap.size A2) := fun W hW ty dc sc => by
    rw [hA2]
    have hm1 : W.heap[w.heap.size]? = some (.cells A1 28 (0, 0)) := by rw [hW]; exact setRow_heap W1 w.heap.size ROW A1 28 (0, 0) hWn
    refine run_copyR iqU34 hinf W (fz := (0, 0)) hm1 (fun j _ hj => by simp at hj) _ _ _ (m := n - i) (k := n - i) (by omega) (lenOf_slice _ _ _ _) (run_firstCells_some W _ _ _ _ _ _ (by rw [hsz]; exact hcl) (fun j v hj => ?_)) (by omega) h1c
    rw [hcs, List.getElem?_drop, List.getElem?_take] at hj
    split at hj
    · have : (⟨b, i * 3, none⟩ : Addr).add j = ⟨b, i * 3 + j, none⟩ := by unfold Addr.add; split <;> simp_all
      rw [this]
      have e : W.cell? ⟨b, i * 3 + j, none⟩ = arr[i * 3 + j]? := by
        have e1 : W.heap[b]? = w.heap[b]? := by rw [hW, setRow_other W1 w.heap.size b A1 (by omega)]; exact hWo b hbw
        simp [World.cell?, e1, hmem]
      rw [e]; simpa using hj
    · cases hj
  have hb1 : (0 : Int) ≤ (i : Int) + 1 := by omega
  have hin : i ≤ n := by omega
  have hb2 : ¬ (G = i + 1) := by omega
  have hb4 : ¬ (c = i) := by omega
  have hb5 : ¬ (G = i) := by omega
  have hb3 : (i : Int) ≤ (n : Int) + 1 := by omega
  have hb6 : (c : Int) < (n : Int) + 1 := by omega
  have hb7 : i ≤ c := by omega
  rw [← hW1]
  clear hG hcs hA1 hA2 hW1 hold hROW hWn hWo hik hkk
  go_enter Try.func34, Try.ntmps34
  go_wp2_with (first
    | (at_builtin; refine Lib.wpList_append_run _ rfl _ _ _ _ rfl _ _ rfl rfl _ _ (hrz _) ?_)
    | (at_builtin; refine wpList_copy_runR _ rfl _ _ 24 24 rfl _ _ rfl rfl (hcp1 _ (by exact rfl) _ _) ?_))
  have hF : ((W1.setRow w.heap.size A1).drew).heap = (W1.setRow w.heap.size A1).heap := rfl
  go_region_law_o (refine step_copy_runR rfl _ _ 24 24 rfl (.slice (some ⟨w.heap.size, (i + 1) * 3, none⟩) (n - i) (G - (i + 1))) (.slice (some ⟨b, i * 3, none⟩) (n - i) (c - i)) (by simp [Act.eval, Act.put]) (by simp [Act.eval, Act.put]) (hcp2 _ hF 3 (G - (i + 1)) (c - i)) ?_)
  go_wp2
  go_ret
  exact ⟨rfl, rfl⟩
theorem insP34 : InsP Try.prog 34 28 3 24 := by
  intro w b i n c vb vo vc arr va tb tv fz fv vs hmem hsize hf hmemv hbn hvl hvs h1v h1c hi hnc hby
  obtain ⟨inf, z, hinf, hsz, hzz, hzs, hbb⟩ := iqE34
  obtain ⟨cs, hcs⟩ : ∃ cs, cs = (arr.toList.take (n * 3)).drop (i * 3) := ⟨_, rfl⟩
  have h1 : ∀ u ∈ cs, u.oneCell' = true := fun u hu => h1c u (by rw [hcs] at hu; exact List.mem_of_mem_drop hu)
  have hcl : cs.length = (n - i) * 3 := by rw [hcs]; simp; omega
  by_cases hroom : n + 1 ≤ c
  · have hvo : vo < va.size := by
      have := hvs 0 vs[0] (List.getElem?_eq_getElem (by omega))
      have := (Array.getElem?_eq_some_iff.1 this).1
      omega
    have hov : ∀ y, (callFunc 62 #[.slice (some ⟨vb, vo, none⟩) 1 vc, .slice (some ⟨b, (i + 1) * 3, none⟩) (n - i) y]).run Try.prog w = .ok (.value (.bool false)) w := fun y => by
      rw [run_callFunc_extern Try.func62 (by kernel_rfl) (by kernel_rfl) (by kernel_rfl) (e := Extern.SlicesOverlaps.overlaps #[24, 24] #[4]) (by kernel_rfl),
        overlaps_apart2 w 24 4 28 iqU34 3 (fun w => by rw [run_size hinf, hsz]) ⟨vb, vo, none⟩ ⟨b, (i + 1) * 3, none⟩ 1 vc (n - i) y hbn tv tb va.size arr.size (by simp [World.shape?, hmemv]) (by simp [World.shape?, hmem]) (by omega)
          (by have := hf ((i + 1) * 3) (by omega); simp only [World.frozen?, hmem]; simp; omega) (by have := hf arr.size (Nat.le_refl _); simp only [World.frozen?, hmem]; simp; omega)]
      rfl
    refine (iqShift34 hinf hsz w b i n c vb vo vc arr tb fz cs vs hmem (fun j hj => hf j (by omega)) hi hroom hsize hby hbn hcs hvl (fun j u hj => by simpa [World.cell?, hmemv] using hvs j u hj) h1 h1v hov _ _ rfl rfl).mono fun x w' => ?_
    rintro ⟨rfl, rfl⟩
    have hA1s : (arr.toList.take ((i + 1) * 3) ++ (cs ++ arr.toList.drop ((i + 1) * 3 + cs.length))).toArray.size = arr.size := by simp [hcl]; omega
    have hm1 := setRow_heap w.drew b arr (arr.toList.take ((i + 1) * 3) ++ (cs ++ arr.toList.drop ((i + 1) * 3 + cs.length))).toArray tb fz hmem
    generalize hA1 : (arr.toList.take ((i + 1) * 3) ++ (cs ++ arr.toList.drop ((i + 1) * 3 + cs.length))).toArray = A1 at *
    have hA2s : (A1.toList.take (i * 3) ++ (vs ++ A1.toList.drop (i * 3 + vs.length))).toArray.size = A1.size := by simp [hvl]; omega
    have hm2 := setRow_heap (w.drew.setRow b A1) b A1 (A1.toList.take (i * 3) ++ (vs ++ A1.toList.drop (i * 3 + vs.length))).toArray tb fz hm1
    refine ⟨b, c, tb, _, fz, rfl, rfl, rfl, rfl, hm2, fun j hj => hf j (by rw [hA2s, hA1s] at hj; exact hj), by rw [hA2s, hA1s]; exact hsize, hroom, ?_, .inl ⟨rfl, rfl, by rw [hA2s, hA1s], by rw [setRow_size, setRow_size]; rfl, fun j hj => ?_⟩⟩
    · subst hA1
      exact insShiftL arr.toList vs cs (i * 3) (n * 3) 3 ((i + 1) * 3) ((n + 1) * 3) (by omega) (by omega) (by omega) (by simp; omega) hvl hcs
    · rw [setRow_other _ _ _ _ hj, setRow_other _ _ _ _ hj]; rfl
  · refine (iqGrow34 hinf hsz hzz hzs hbb w b i n c vb vo vc arr tb fz cs vs hmem hi hnc hroom hsize hby va tv fv hmemv hcs hvl hvs h1 h1v _ rfl _ _ _ rfl rfl rfl).mono fun x w' => ?_
    rintro ⟨rfl, rfl⟩
    have hGn : n + 1 ≤ grownCap w (n + 1) c 28 := grownCap_ge w _ _ _
    have hzc : ∀ k, (Builtin.zeroCells z.cells k).size = k * 3 := fun k => by rw [size_zeroCells, hzs]
    have hRs : ((arr.toList.take (i * 3)).toArray ++ Builtin.zeroCells z.cells (n + 1 - i) ++ Builtin.zeroCells z.cells (grownCap w (n + 1) c 28 - (n + 1))).size = grownCap w (n + 1) c 28 * 3 := by
      simp only [Array.size_append, hzc, List.size_toArray, List.length_take, Array.length_toList]; omega
    have hRt : ((arr.toList.take (i * 3)).toArray ++ Builtin.zeroCells z.cells (n + 1 - i) ++ Builtin.zeroCells z.cells (grownCap w (n + 1) c 28 - (n + 1))).toList.take (i * 3) = arr.toList.take (i * 3) := by
      simp only [Array.toList_append, List.append_assoc]
      exact List.take_left' (by simp; omega)
    generalize hG : grownCap w (n + 1) c 28 = G at *
    generalize hR : (arr.toList.take (i * 3)).toArray ++ Builtin.zeroCells z.cells (n + 1 - i) ++ Builtin.zeroCells z.cells (G - (n + 1)) = ROW at *
    have hm0 : (w.drew.alloc (.cells ROW 28)).heap[w.heap.size]? = some (.cells ROW 28 (0, 0)) := heap_alloc_new w.drew _
    have hA1s : (ROW.toList.take (i * 3) ++ (vs ++ ROW.toList.drop (i * 3 + vs.length))).toArray.size = ROW.size := by simp [hvl]; omega
    have hm1 := setRow_heap (w.drew.alloc (.cells ROW 28)) w.heap.size ROW (ROW.toList.take (i * 3) ++ (vs ++ ROW.toList.drop (i * 3 + vs.length))).toArray 28 (0, 0) hm0
    generalize hA1 : (ROW.toList.take (i * 3) ++ (vs ++ ROW.toList.drop (i * 3 + vs.length))).toArray = A1 at *
    have hA2s : (A1.toList.take ((i + 1) * 3) ++ (cs ++ A1.toList.drop ((i + 1) * 3 + cs.length))).toArray.size = A1.size := by simp [hcl]; omega
    have hm2 := setRow_heap ((w.drew.alloc (.cells ROW 28)).setRow w.heap.size A1).drew w.heap.size A1 (A1.toList.take ((i + 1) * 3) ++ (cs ++ A1.toList.drop ((i + 1) * 3 + cs.length))).toArray 28 (0, 0) hm1
    refine ⟨w.heap.size, G, 28, _, (0, 0), rfl, rfl, rfl, rfl, hm2, fun j _ hj => by simp at hj, by rw [hA2s, hA1s]; exact hRs, hGn, ?_, .inr ⟨rfl, rfl, ?_, fun j hj => ?_⟩⟩
    · subst hA1
      exact insGrowL arr.toList ROW.toList vs cs (i * 3) (n * 3) 3 ((i + 1) * 3) ((n + 1) * 3) (by omega) (by omega) (by omega) (by simp; omega) hvl hcs hRt
    · rw [setRow_size]
      show ((w.drew.alloc (.cells ROW 28)).setRow w.heap.size A1).heap.size = _
      rw [setRow_size]
      simp
    · rw [setRow_other _ _ _ _ (by omega)]
      show ((w.drew.alloc (.cells ROW 28)).setRow w.heap.size A1).heap[j]? = _
      rw [setRow_other _ _ _ _ (by omega)]
      exact heap_alloc_old w.drew _ hj


theorem iqU40 : Try.prog.underlying 37 = some (.slice 42) := by kernel_rfl
theorem iqI40 : Try.prog.underlying 3 = some (.int .i64) := by kernel_rfl
theorem iqE40 : ∃ (inf : TypeInfo) (z : Value), Try.prog.info? 42 = some inf ∧ inf.size = 2 ∧ inf.zero = some z ∧ z.cells.size = 2 ∧ inf.bytes = 24 := insE_of (by kernel_rfl)
set_option maxHeartbeats 4000000 in
theorem iqShift40 {inf : TypeInfo} (hinf : Try.prog.info? 42 = some inf) (hsz : inf.size = 2) (w : World) (b i n c vb vo vc : Nat) (arr : Array Value) (tb : Nat) (fz : Nat × Nat) (cs vs : List Value) (hmem : w.heap[b]? = some (.cells arr tb fz)) (hf : ∀ j, j < arr.size → ¬ (fz.1 ≤ j ∧ j < fz.2))
    (hi : i < n) (hroom : n + 1 ≤ c) (hsize : arr.size = c * 2) (hby : (n + 1) * 24 ≤ 140737488355328) (hbn : vb ≠ b)
    (hcs : cs = (arr.toList.take (n * 2)).drop (i * 2)) (hvl : vs.length = 2) (hvs : ∀ (j : Nat) (u : Value), vs[j]? = some u → w.cell? ⟨vb, vo + j, none⟩ = some u) (h1c : ∀ u ∈ cs, u.oneCell' = true) (h1v : ∀ u ∈ vs, u.oneCell' = true)
    (hov : ∀ y, (callFunc 65 #[.slice (some ⟨vb, vo, none⟩) 1 vc, .slice (some ⟨b, (i + 1) * 2, none⟩) (n - i) y]).run Try.prog w = .ok (.value (.bool false)) w) (A1 A2 : Array Value)
    (hA1 : A1 = (arr.toList.take ((i + 1) * 2) ++ (cs ++ arr.toList.drop ((i + 1) * 2 + cs.length))).toArray) (hA2 : A2 = (A1.toList.take (i * 2) ++ (vs ++ A1.toList.drop (i * 2 + vs.length))).toArray) :
    Calls Try.prog 40 #[.slice (some ⟨b, 0, none⟩) n c, .int .i64 (i : Nat), .slice (some ⟨vb, vo, none⟩) 1 vc] w fun e w' => e = .returned (.slice (some ⟨b, 0, none⟩) (n + 1) c) ∧ w' = (w.drew.setRow b A1).setRow b A2 := by
  have mixed := mixed
  have hz2 : ¬ ((i : Int) = (n : Int)) := by omega
  have hw1 : IntKind.i64.wrap ((i : Int) + (1 : Int)) = (i : Int) + (1 : Int) := by rw [IntKind.wrap_i64]; omega
  have hw2 : IntKind.i64.wrap ((n : Int) + (1 : Int)) = (n : Int) + (1 : Int) := by rw [IntKind.wrap_i64]; omega
  have hcl : cs.length = (n - i) * 2 := by rw [hcs]; simp; omega
  have hA1s : A1.size = arr.size := by rw [hA1]; simp [hcl]; omega
  have hcp1 : ∀ ty dc sc, (Builtin.copy_ #[37, 37] ty #[.slice (some ⟨b, (i + 1) * 2, none⟩) (n - i) dc, .slice (some ⟨b, i * 2, none⟩) (n + 1 - i) sc]).run Try.prog w.drew = .ok (.int .i64 ((n - i : Nat) : Int)) (w.drew.setRow b A1) := fun ty dc sc => by
    rw [hA1]
    refine run_copyR iqU40 hinf w.drew (fz := fz) hmem hf _ _ _ (m := n + 1 - i) (k := n - i) (by omega) (lenOf_slice _ _ _ _) (run_firstCells_some w.drew _ _ _ _ _ _ (by rw [hsz]; exact hcl) (fun j v hj => ?_)) (by omega) h1c
    rw [hcs, List.getElem?_drop, List.getElem?_take] at hj
    split at hj
    · have : (⟨b, i * 2, none⟩ : Addr).add j = ⟨b, i * 2 + j, none⟩ := by unfold Addr.add; split <;> simp_all
      rw [this]
      have e : w.drew.cell? ⟨b, i * 2 + j, none⟩ = arr[i * 2 + j]? := by simp [World.cell?, show w.drew.heap = w.heap from rfl, hmem]
      rw [e]; simpa using hj
    · cases hj
  have hcp2 : ∀ (W : World), W.heap = (w.drew.setRow b A1).heap → ∀ ty dc, (Builtin.copy_ #[37, 37] ty #[.slice (some ⟨b, i * 2, none⟩) (n + 1 - i) dc, .slice (some ⟨vb, vo, none⟩) 1 vc]).run Try.prog W = .ok (.int .i64 ((1 : Nat) : Int)) (W.setRow b A2) := fun W hW ty dc => by
    rw [hA2]
    have hm1 : W.heap[b]? = some (.cells A1 tb fz) := by rw [hW]; exact setRow_heap w.drew b arr A1 tb fz hmem
    refine run_copyR iqU40 hinf W (fz := fz) hm1 (by rw [hA1s]; exact hf) _ _ _ (m := 1) (k := 1) (by omega) (lenOf_slice _ _ _ _) (run_firstCells_some W _ _ _ _ _ _ (by rw [hsz]; exact hvl) (fun j v hj => ?_)) (by omega) h1v
    have : (⟨vb, vo, none⟩ : Addr).add j = ⟨vb, vo + j, none⟩ := by unfold Addr.add; split <;> simp_all
    rw [this]
    have e : W.cell? ⟨vb, vo + j, none⟩ = w.cell? ⟨vb, vo + j, none⟩ := cell_congr (by rw [hW]; exact setRow_other w.drew b vb A1 hbn)
    rw [e]; exact hvs j v hj
  have hb1 : (0 : Int) ≤ (i : Int) + 1 := by omega
  have hin : i ≤ n := by omega
  have hb2 : ¬ (c = i + 1) := by omega
  have hb4 : ¬ (c = i) := by omega
  have hb3 : (i : Int) ≤ (n : Int) + 1 := by omega
  clear hcs hA1 hA2
  go_enter Try.func40, Try.ntmps40
  go_wp2_with (simp only [hov])
  go_region_law_o (refine step_copy_runR rfl _ _ 37 37 rfl _ _ (by simp [Act.eval, Act.put]) (by simp [Act.eval, Act.put]) (hcp1 _ _ _) ?_)
  go_wp2_with (at_builtin; refine wpList_copy_runR _ rfl _ _ 37 37 rfl _ _ rfl rfl (hcp2 _ rfl _ _) ?_)
  go_ret
  exact ⟨rfl, rfl⟩
set_option maxHeartbeats 4000000 in
theorem iqGrow40 {inf : TypeInfo} {z : Value} (hinf : Try.prog.info? 42 = some inf) (hsz : inf.size = 2) (hzz : inf.zero = some z) (hzs : z.cells.size = 2) (hbb : inf.bytes = 24) (w : World) (b i n c vb vo vc : Nat) (arr : Array Value) (tb : Nat) (fz : Nat × Nat) (cs vs : List Value) (hmem : w.heap[b]? = some (.cells arr tb fz))
    (hi : i < n) (hnc : n ≤ c) (hroom : ¬ (n + 1 ≤ c)) (hsize : arr.size = c * 2) (hby : (n + 1) * 24 ≤ 140737488355328) (va : Array Value) (tv : Nat) (fv : Nat × Nat) (hmemv : w.heap[vb]? = some (.cells va tv fv))
    (hcs : cs = (arr.toList.take (n * 2)).drop (i * 2)) (hvl : vs.length = 2) (hvs : ∀ (j : Nat) (u : Value), vs[j]? = some u → va[vo + j]? = some u) (h1c : ∀ u ∈ cs, u.oneCell' = true) (h1v : ∀ u ∈ vs, u.oneCell' = true)
    (G : Nat) (hG : G = grownCap w (n + 1) c 42) (ROW A1 A2 : Array Value)
    (hROW : ROW = (arr.toList.take (i * 2)).toArray ++ Builtin.zeroCells z.cells (n + 1 - i) ++ Builtin.zeroCells z.cells (G - (n + 1)))
    (hA1 : A1 = (ROW.toList.take (i * 2) ++ (vs ++ ROW.toList.drop (i * 2 + vs.length))).toArray) (hA2 : A2 = (A1.toList.take ((i + 1) * 2) ++ (cs ++ A1.toList.drop ((i + 1) * 2 + cs.length))).toArray) :
    Calls Try.prog 40 #[.slice (some ⟨b, 0, none⟩) n c, .int .i64 (i : Nat), .slice (some ⟨vb, vo, none⟩) 1 vc] w fun e w' => e = .returned (.slice (some ⟨w.heap.size, 0, none⟩) (n + 1) G) ∧ w' = (((w.drew.alloc (.cells ROW 42)).setRow w.heap.size A1).drew).setRow w.heap.size A2 := by
  have mixed := mixed
  have hz2 : ¬ ((i : Int) = (n : Int)) := by omega
  have hw1 : IntKind.i64.wrap ((i : Int) + (1 : Int)) = (i : Int) + (1 : Int) := by rw [IntKind.wrap_i64]; omega
  have hw2 : IntKind.i64.wrap ((n : Int) + (1 : Int)) = (n : Int) + (1 : Int) := by rw [IntKind.wrap_i64]; omega
  have hw3 : IntKind.i64.wrap ((n : Int) + (1 : Int) - (i : Int)) = (n : Int) + (1 : Int) - (i : Int) := by rw [IntKind.wrap_i64]; omega
  have hcl : cs.length = (n - i) * 2 := by rw [hcs]; simp; omega
  have hGn : n + 1 ≤ G := by rw [hG]; exact grownCap_ge w _ _ _
  have hbw : b < w.heap.size := (Array.getElem?_eq_some_iff.1 hmem).1
  have hvw : vb < w.heap.size := (Array.getElem?_eq_some_iff.1 hmemv).1
  have hzc : ∀ k, (Builtin.zeroCells z.cells k).size = k * 2 := fun k => by rw [size_zeroCells, hzs]
  have hRs : ROW.size = G * 2 := by
    rw [hROW]; simp only [Array.size_append, hzc, List.size_toArray, List.length_take, Array.length_toList]; omega
  have hA1s : A1.size = ROW.size := by rw [hA1]; simp [hvl]; omega
  have hold : (Builtin.firstCells inf.size i (.slice (some ⟨b, 0, none⟩) i c)).run Try.prog w.drew = .ok (arr.toList.take (i * 2)).toArray w.drew := by
    rw [hsz]
    refine run_firstCells_some w.drew 2 i ⟨b, 0, none⟩ i c (arr.toList.take (i * 2)) (by rw [List.length_take]; simp; omega) (fun j v hj => ?_)
    rw [List.getElem?_take] at hj
    split at hj
    · have : (⟨b, 0, none⟩ : Addr).add j = ⟨b, j, none⟩ := by unfold Addr.add; split <;> simp_all
      rw [this]
      have e : w.drew.cell? ⟨b, j, none⟩ = arr[j]? := by simp [World.cell?, show w.drew.heap = w.heap from rfl, hmem]
      rw [e]; simpa using hj
    · cases hj
  have hik : i + (n + 1 - i) = n + 1 := by omega
  have hkk : (n : Int) + 1 - (i : Int) = ((n + 1 - i : Nat) : Int) := by omega
  obtain ⟨W1, hW1⟩ : ∃ W1, W1 = w.drew.alloc (.cells ROW 42) := ⟨_, rfl⟩
  have hrz : ∀ ty, (Builtin.append_ #[37, 3] ty #[.slice (some ⟨b, 0, none⟩) i c, .int .i64 ((n : Int) + 1 - (i : Int))]).run Try.prog w = .ok (.slice (some ⟨w.heap.size, 0, none⟩) (n + 1) G) W1 := fun ty => by
    have hnx := nextslicecap_le (need := n + 1) (old := c) (by omega)
    have h := Lib.run_append_grow_zeros w 37 3 ty 42 inf z .i64 .i64 iqU40 iqI40 hinf hzz (some ⟨b, 0, none⟩) i c (arr.toList.take (i * 2)) hold (n + 1 - i) (by omega) (by omega) (by omega) (by omega) (by rw [hbb]; omega) (by rw [hbb, hik]; omega)
    rw [hik, ← hG, ← hROW, ← hW1] at h
    rw [hkk]
    exact h
  have hWn : W1.heap[w.heap.size]? = some (.cells ROW 42 (0, 0)) := by rw [hW1]; exact heap_alloc_new w.drew _
  have hWo : ∀ j, j < w.heap.size → W1.heap[j]? = w.heap[j]? := fun j hj => by rw [hW1]; exact heap_alloc_old w.drew _ hj
  have hcp1 : ∀ (W : World), W.heap = W1.heap → ∀ ty dc, (Builtin.copy_ #[37, 37] ty #[.slice (some ⟨w.heap.size, i * 2, none⟩) (n + 1 - i) dc, .slice (some ⟨vb, vo, none⟩) 1 vc]).run Try.prog W = .ok (.int .i64 ((1 : Nat) : Int)) (W.setRow w.heap.size A1) := fun W hW ty dc => by
    rw [hA1]
    refine run_copyR iqU40 hinf W (fz := (0, 0)) (by rw [hW]; exact hWn) (fun j _ hj => by simp at hj) _ _ _ (m := 1) (k := 1) (by omega) (lenOf_slice _ _ _ _) (run_firstCells_some W _ _ _ _ _ _ (by rw [hsz]; exact hvl) (fun j v hj => ?_)) (by omega) h1v
    have : (⟨vb, vo, none⟩ : Addr).add j = ⟨vb, vo + j, none⟩ := by unfold Addr.add; split <;> simp_all
    rw [this]
    have e : W.cell? ⟨vb, vo + j, none⟩ = va[vo + j]? := by simp [World.cell?, hW, hWo vb hvw, hmemv]
    rw [e]; exact hvs j v hj
  have hcp2 : ∀ (W : World), W.heap = (W1.setRow w.heap.size A1).heap → ∀ ty dc sc, (Builtin.copy_ #[37, 37] ty #[.slice (some ⟨w.heap.size, (i + 1) * 2, none⟩) (n - i) dc, .slice (some ⟨b, i * 2, none⟩) (n - i) sc]).run Try.prog W = .ok (.int .i64 ((n - i : Nat) : Int)) (W.setRow w.heap.size A2) := fun W hW ty dc sc => by
    rw [hA2]
    have hm1 : W.heap[w.heap.size]? = some (.cells A1 42 (0, 0)) := by rw [hW]; exact setRow_heap W1 w.heap.size ROW A1 42 (0, 0) hWn
    refine run_copyR iqU40 hinf W (fz := (0, 0)) hm1 (fun j _ hj => by simp at hj) _ _ _ (m := n - i) (k := n - i) (by omega) (lenOf_slice _ _ _ _) (run_firstCells_some W _ _ _ _ _ _ (by rw [hsz]; exact hcl) (fun j v hj => ?_)) (by omega) h1c
    rw [hcs, List.getElem?_drop, List.getElem?_take] at hj
    split at hj
    · have : (⟨b, i * 2, none⟩ : Addr).add j = ⟨b, i * 2 + j, none⟩ := by unfold Addr.add; split <;> simp_all
      rw [this]
      have e : W.cell? ⟨b, i * 2 + j, none⟩ = arr[i * 2 + j]? := by
        have e1 : W.heap[b]? = w.heap[b]? := by rw [hW, setRow_other W1 w.heap.size b A1 (by omega)]; exact hWo b hbw
        simp [World.cell?, e1, hmem]
      rw [e]; simpa using hj
    · cases hj
  have hb1 : (0 : Int) ≤ (i : Int) + 1 := by omega
  have hin : i ≤ n := by omega
  have hb2 : ¬ (G = i + 1) := by omega
  have hb4 : ¬ (c = i) := by omega
  have hb5 : ¬ (G = i) := by omega
  have hb3 : (i : Int) ≤ (n : Int) + 1 := by omega
  have hb6 : (c : Int) < (n : Int) + 1 := by omega
  have hb7 : i ≤ c := by omega
  rw [← hW1]
  clear hG hcs hA1 hA2 hW1 hold hROW hWn hWo hik hkk
  go_enter Try.func40, Try.ntmps40
  go_wp2_with (first
    | (at_builtin; refine Lib.wpList_append_run _ rfl _ _ _ _ rfl _ _ rfl rfl _ _ (hrz _) ?_)
    | (at_builtin; refine wpList_copy_runR _ rfl _ _ 37 37 rfl _ _ rfl rfl (hcp1 _ (by exact rfl) _ _) ?_))
  have hF : ((W1.setRow w.heap.size A1).drew).heap = (W1.setRow w.heap.size A1).heap := rfl
  go_region_law_o (refine step_copy_runR rfl _ _ 37 37 rfl (.slice (some ⟨w.heap.size, (i + 1) * 2, none⟩) (n - i) (G - (i + 1))) (.slice (some ⟨b, i * 2, none⟩) (n - i) (c - i)) (by simp [Act.eval, Act.put]) (by simp [Act.eval, Act.put]) (hcp2 _ hF 3 (G - (i + 1)) (c - i)) ?_)
  go_wp2
  go_ret
  exact ⟨rfl, rfl⟩
theorem insP40 : InsP Try.prog 40 42 2 24 := by
  intro w b i n c vb vo vc arr va tb tv fz fv vs hmem hsize hf hmemv hbn hvl hvs h1v h1c hi hnc hby
  obtain ⟨inf, z, hinf, hsz, hzz, hzs, hbb⟩ := iqE40
  obtain ⟨cs, hcs⟩ : ∃ cs, cs = (arr.toList.take (n * 2)).drop (i * 2) := ⟨_, rfl⟩
  have h1 : ∀ u ∈ cs, u.oneCell' = true := fun u hu => h1c u (by rw [hcs] at hu; exact List.mem_of_mem_drop hu)
  have hcl : cs.length = (n - i) * 2 := by rw [hcs]; simp; omega
  by_cases hroom : n + 1 ≤ c
  · have hvo : vo < va.size := by
      have := hvs 0 vs[0] (List.getElem?_eq_getElem (by omega))
      have := (Array.getElem?_eq_some_iff.1 this).1
      omega
    have hov : ∀ y, (callFunc 65 #[.slice (some ⟨vb, vo, none⟩) 1 vc, .slice (some ⟨b, (i + 1) * 2, none⟩) (n - i) y]).run Try.prog w = .ok (.value (.bool false)) w := fun y => by
      rw [run_callFunc_extern Try.func65 (by kernel_rfl) (by kernel_rfl) (by kernel_rfl) (e := Extern.SlicesOverlaps.overlaps #[37, 37] #[4]) (by kernel_rfl),
        overlaps_apart2 w 37 4 42 iqU40 2 (fun w => by rw [run_size hinf, hsz]) ⟨vb, vo, none⟩ ⟨b, (i + 1) * 2, none⟩ 1 vc (n - i) y hbn tv tb va.size arr.size (by simp [World.shape?, hmemv]) (by simp [World.shape?, hmem]) (by omega)
          (by have := hf ((i + 1) * 2) (by omega); simp only [World.frozen?, hmem]; simp; omega) (by have := hf arr.size (Nat.le_refl _); simp only [World.frozen?, hmem]; simp; omega)]
      rfl
    refine (iqShift40 hinf hsz w b i n c vb vo vc arr tb fz cs vs hmem (fun j hj => hf j (by omega)) hi hroom hsize hby hbn hcs hvl (fun j u hj => by simpa [World.cell?, hmemv] using hvs j u hj) h1 h1v hov _ _ rfl rfl).mono fun x w' => ?_
    rintro ⟨rfl, rfl⟩
    have hA1s : (arr.toList.take ((i + 1) * 2) ++ (cs ++ arr.toList.drop ((i + 1) * 2 + cs.length))).toArray.size = arr.size := by simp [hcl]; omega
    have hm1 := setRow_heap w.drew b arr (arr.toList.take ((i + 1) * 2) ++ (cs ++ arr.toList.drop ((i + 1) * 2 + cs.length))).toArray tb fz hmem
    generalize hA1 : (arr.toList.take ((i + 1) * 2) ++ (cs ++ arr.toList.drop ((i + 1) * 2 + cs.length))).toArray = A1 at *
    have hA2s : (A1.toList.take (i * 2) ++ (vs ++ A1.toList.drop (i * 2 + vs.length))).toArray.size = A1.size := by simp [hvl]; omega
    have hm2 := setRow_heap (w.drew.setRow b A1) b A1 (A1.toList.take (i * 2) ++ (vs ++ A1.toList.drop (i * 2 + vs.length))).toArray tb fz hm1
    refine ⟨b, c, tb, _, fz, rfl, rfl, rfl, rfl, hm2, fun j hj => hf j (by rw [hA2s, hA1s] at hj; exact hj), by rw [hA2s, hA1s]; exact hsize, hroom, ?_, .inl ⟨rfl, rfl, by rw [hA2s, hA1s], by rw [setRow_size, setRow_size]; rfl, fun j hj => ?_⟩⟩
    · subst hA1
      exact insShiftL arr.toList vs cs (i * 2) (n * 2) 2 ((i + 1) * 2) ((n + 1) * 2) (by omega) (by omega) (by omega) (by simp; omega) hvl hcs
    · rw [setRow_other _ _ _ _ hj, setRow_other _ _ _ _ hj]; rfl
  · refine (iqGrow40 hinf hsz hzz hzs hbb w b i n c vb vo vc arr tb fz cs vs hmem hi hnc hroom hsize hby va tv fv hmemv hcs hvl hvs h1 h1v _ rfl _ _ _ rfl rfl rfl).mono fun x w' => ?_
    rintro ⟨rfl, rfl⟩
    have hGn : n + 1 ≤ grownCap w (n + 1) c 42 := grownCap_ge w _ _ _
    have hzc : ∀ k, (Builtin.zeroCells z.cells k).size = k * 2 := fun k => by rw [size_zeroCells, hzs]
    have hRs : ((arr.toList.take (i * 2)).toArray ++ Builtin.zeroCells z.cells (n + 1 - i) ++ Builtin.zeroCells z.cells (grownCap w (n + 1) c 42 - (n + 1))).size = grownCap w (n + 1) c 42 * 2 := by
      simp only [Array.size_append, hzc, List.size_toArray, List.length_take, Array.length_toList]; omega
    have hRt : ((arr.toList.take (i * 2)).toArray ++ Builtin.zeroCells z.cells (n + 1 - i) ++ Builtin.zeroCells z.cells (grownCap w (n + 1) c 42 - (n + 1))).toList.take (i * 2) = arr.toList.take (i * 2) := by
      simp only [Array.toList_append, List.append_assoc]
      exact List.take_left' (by simp; omega)
    generalize hG : grownCap w (n + 1) c 42 = G at *
    generalize hR : (arr.toList.take (i * 2)).toArray ++ Builtin.zeroCells z.cells (n + 1 - i) ++ Builtin.zeroCells z.cells (G - (n + 1)) = ROW at *
    have hm0 : (w.drew.alloc (.cells ROW 42)).heap[w.heap.size]? = some (.cells ROW 42 (0, 0)) := heap_alloc_new w.drew _
    have hA1s : (ROW.toList.take (i * 2) ++ (vs ++ ROW.toList.drop (i * 2 + vs.length))).toArray.size = ROW.size := by simp [hvl]; omega
    have hm1 := setRow_heap (w.drew.alloc (.cells ROW 42)) w.heap.size ROW (ROW.toList.take (i * 2) ++ (vs ++ ROW.toList.drop (i * 2 + vs.length))).toArray 42 (0, 0) hm0
    generalize hA1 : (ROW.toList.take (i * 2) ++ (vs ++ ROW.toList.drop (i * 2 + vs.length))).toArray = A1 at *
    have hA2s : (A1.toList.take ((i + 1) * 2) ++ (cs ++ A1.toList.drop ((i + 1) * 2 + cs.length))).toArray.size = A1.size := by simp [hcl]; omega
    have hm2 := setRow_heap ((w.drew.alloc (.cells ROW 42)).setRow w.heap.size A1).drew w.heap.size A1 (A1.toList.take ((i + 1) * 2) ++ (cs ++ A1.toList.drop ((i + 1) * 2 + cs.length))).toArray 42 (0, 0) hm1
    refine ⟨w.heap.size, G, 42, _, (0, 0), rfl, rfl, rfl, rfl, hm2, fun j _ hj => by simp at hj, by rw [hA2s, hA1s]; exact hRs, hGn, ?_, .inr ⟨rfl, rfl, ?_, fun j hj => ?_⟩⟩
    · subst hA1
      exact insGrowL arr.toList ROW.toList vs cs (i * 2) (n * 2) 2 ((i + 1) * 2) ((n + 1) * 2) (by omega) (by omega) (by omega) (by simp; omega) hvl hcs hRt
    · rw [setRow_size]
      show ((w.drew.alloc (.cells ROW 42)).setRow w.heap.size A1).heap.size = _
      rw [setRow_size]
      simp
    · rw [setRow_other _ _ _ _ (by omega)]
      show ((w.drew.alloc (.cells ROW 42)).setRow w.heap.size A1).heap[j]? = _
      rw [setRow_other _ _ _ _ (by omega)]
      exact heap_alloc_old w.drew _ hj


set_option maxHeartbeats 4000000 in
theorem insEndN34 (w : World) (n c : Nat) (a : Addr) (vc : Nat) (hnc : n ≤ c) (hc0 : c = 0) (hn : n ≤ 140737488355328) (x : Option Addr) (m k : Nat) {w1 : World}
    (hap : ∀ ty, (Builtin.append_ #[24, 24] ty #[.slice none n c, .slice (some a) 1 vc]).run Try.prog w = .ok (.slice x m k) w1) :
    Calls Try.prog 34 #[.slice none n c, .int .i64 (n : Nat), .slice (some a) 1 vc] w fun e w' => e = .returned (.slice x m k) ∧ w' = w1 := by
  have mixed := mixed
  have hb1 : (0 : Int) ≤ (n : Int) := by omega
  have hb2 : (n : Int) ≤ (n : Int) := Int.le_refl _
  have hb7 : (n : Int) ≤ (c : Int) := by omega
  have hn0 : n = 0 := by omega
  subst hc0 hn0
  all_goals
    go_enter Try.func34, Try.ntmps34
    go_wp2_with (at_builtin; refine Lib.wpList_append_run _ rfl _ _ _ _ rfl _ _ rfl rfl _ _ (hap _) ?_)
    all_goals
      go_ret
      exact ⟨rfl, rfl⟩


set_option maxHeartbeats 4000000 in
theorem insEndS34 (w : World) (b : Addr) (n c : Nat) (a : Addr) (vc : Nat) (hnc : n ≤ c) (hn : n ≤ 140737488355328) (x : Option Addr) (m k : Nat) {w1 : World}
    (hap : ∀ ty, (Builtin.append_ #[24, 24] ty #[.slice (some b) n c, .slice (some a) 1 vc]).run Try.prog w = .ok (.slice x m k) w1) :
    Calls Try.prog 34 #[.slice (some b) n c, .int .i64 (n : Nat), .slice (some a) 1 vc] w fun e w' => e = .returned (.slice x m k) ∧ w' = w1 := by
  have mixed := mixed
  have hb1 : (0 : Int) ≤ (n : Int) := by omega
  have hb2 : (n : Int) ≤ (n : Int) := Int.le_refl _
  have hb7 : (n : Int) ≤ (c : Int) := by omega
  have hb8 : True := trivial
  by_cases hcn : c = n
  all_goals
    go_enter Try.func34, Try.ntmps34
    go_wp2_with (at_builtin; refine Lib.wpList_append_run _ rfl _ _ _ _ rfl _ _ rfl rfl _ _ (hap _) ?_)
    all_goals
      go_ret
      exact ⟨rfl, rfl⟩


set_option maxHeartbeats 4000000 in
theorem insEndN40 (w : World) (n c : Nat) (a : Addr) (vc : Nat) (hnc : n ≤ c) (hc0 : c = 0) (hn : n ≤ 140737488355328) (x : Option Addr) (m k : Nat) {w1 : World}
    (hap : ∀ ty, (Builtin.append_ #[37, 37] ty #[.slice none n c, .slice (some a) 1 vc]).run Try.prog w = .ok (.slice x m k) w1) :
    Calls Try.prog 40 #[.slice none n c, .int .i64 (n : Nat), .slice (some a) 1 vc] w fun e w' => e = .returned (.slice x m k) ∧ w' = w1 := by
  have mixed := mixed
  have hb1 : (0 : Int) ≤ (n : Int) := by omega
  have hb2 : (n : Int) ≤ (n : Int) := Int.le_refl _
  have hb7 : (n : Int) ≤ (c : Int) := by omega
  have hn0 : n = 0 := by omega
  subst hc0 hn0
  all_goals
    go_enter Try.func40, Try.ntmps40
    go_wp2_with (at_builtin; refine Lib.wpList_append_run _ rfl _ _ _ _ rfl _ _ rfl rfl _ _ (hap _) ?_)
    all_goals
      go_ret
      exact ⟨rfl, rfl⟩


set_option maxHeartbeats 4000000 in
theorem insEndS40 (w : World) (b : Addr) (n c : Nat) (a : Addr) (vc : Nat) (hnc : n ≤ c) (hn : n ≤ 140737488355328) (x : Option Addr) (m k : Nat) {w1 : World}
    (hap : ∀ ty, (Builtin.append_ #[37, 37] ty #[.slice (some b) n c, .slice (some a) 1 vc]).run Try.prog w = .ok (.slice x m k) w1) :
    Calls Try.prog 40 #[.slice (some b) n c, .int .i64 (n : Nat), .slice (some a) 1 vc] w fun e w' => e = .returned (.slice x m k) ∧ w' = w1 := by
  have mixed := mixed
  have hb1 : (0 : Int) ≤ (n : Int) := by omega
  have hb2 : (n : Int) ≤ (n : Int) := Int.le_refl _
  have hb7 : (n : Int) ≤ (c : Int) := by omega
  have hb8 : True := trivial
  by_cases hcn : c = n
  all_goals
    go_enter Try.func40, Try.ntmps40
    go_wp2_with (at_builtin; refine Lib.wpList_append_run _ rfl _ _ _ _ rfl _ _ rfl rfl _ _ (hap _) ?_)
    all_goals
      go_ret
      exact ⟨rfl, rfl⟩


theorem insN34 : InsE Try.prog 34 24 28 3 24 := by
  refine ⟨iqU34, ?_, fun w base n c a vc hnc hbn hn x m k w1 hap => ?_⟩
  · obtain ⟨inf, z, h1, h2, h3, h4, h5⟩ := iqE34
    exact ⟨inf, z, h1, h2, h3, h4, h5⟩
  · cases base with
    | none => exact insEndN34 w n c a vc hnc (hbn rfl) hn x m k hap
    | some b => exact insEndS34 w b n c a vc hnc hn x m k hap

theorem insN40 : InsE Try.prog 40 37 42 2 24 := by
  refine ⟨iqU40, ?_, fun w base n c a vc hnc hbn hn x m k w1 hap => ?_⟩
  · obtain ⟨inf, z, h1, h2, h3, h4, h5⟩ := iqE40
    exact ⟨inf, z, h1, h2, h3, h4, h5⟩
  · cases base with
    | none => exact insEndN40 w n c a vc hnc (hbn rfl) hn x m k hap
    | some b => exact insEndS40 w b n c a vc hnc hn x m k hap

def as_slices_Clone_api_Item : List AS := [.val (.list (.agg (.pair (.int .i64) .str)))]
def bs_slices_Clone_api_Item : List BS := []
def pout_slices_Clone_api_Item : Pat := ⟨[(2, .acc 700005)], [(700005, .nrow 42 (.agg (.pair (.int .i64) .str)) false true)]⟩
noncomputable def G_slices_Clone_api_Item  (N : Nat) : OrcT := orcOf []
noncomputable def F_slices_Clone_api_Item  (N : Nat) (x : List (Int × List UInt8)) : Option (List (Int × List UInt8)) :=
  (evT (G_slices_Clone_api_Item  N) L0 P0 []
    [] N 400 (bodyOf Try.f38) ⟨8, slots 0 [.nl ⟨(.agg (.pair (.int .i64) .str)), x⟩], tabU (lbOf as_slices_Clone_api_Item bs_slices_Clone_api_Item x) [], []⟩).elim (kRet 8 pout_slices_Clone_api_Item (kpL []) (lbOf as_slices_Clone_api_Item bs_slices_Clone_api_Item x))
def out_slices_Clone_api_Item (y : List (Int × List UInt8)) : V × List OK × List OK := (.acc 2000000 0, [], [.nrow 42 false true ⟨(.agg (.pair (.int .i64) .str)), y⟩])
noncomputable def V_slices_Clone_api_Item  (N : Nat) (x : List (Int × List UInt8)) : Option (List (Int × List UInt8)) :=
  cnd (decide (List.length x * (24:Nat) ≤ (140737488355328:Nat))) (some x) none
theorem FV_slices_Clone_api_Item_eq  (N : Nat) (x : List (Int × List UInt8)) : F_slices_Clone_api_Item  N x = V_slices_Clone_api_Item  N x := by kernel_rfl
noncomputable def W_slices_Clone_api_Item (N : Nat) (x : List (Int × List UInt8)) : Option (List (Int × List UInt8)) := V_slices_Clone_api_Item  N x
theorem F_slices_Clone_api_Item_eq (N : Nat) (x : List (Int × List UInt8)) : F_slices_Clone_api_Item  N x = W_slices_Clone_api_Item N x := (FV_slices_Clone_api_Item_eq  N x).trans (by kernel_rfl)
noncomputable def conw_slices_Clone_api_Item (w : List (Int × List UInt8) → Option (List (Int × List UInt8))) : Con := ⟨38, as_slices_Clone_api_Item, bs_slices_Clone_api_Item, List (Int × List UInt8), w, out_slices_Clone_api_Item⟩
noncomputable def con_slices_Clone_api_Item (N : Nat) : Con := conw_slices_Clone_api_Item (W_slices_Clone_api_Item N)
theorem R_slices_Clone_api_Item_eq (x : List (Int × List UInt8)) (y : List (Int × List UInt8)) : retOf2 P0 Try.f38 (kpL []) (lbOf as_slices_Clone_api_Item bs_slices_Clone_api_Item x) (patS ⟨8, [], [], []⟩ pout_slices_Clone_api_Item y) = some (out_slices_Clone_api_Item y) := by kernel_rfl
noncomputable def FA_slices_Clone_api_Item : Option (List (Int × List UInt8)) := (evT (G_slices_Clone_api_Item 1) L0 P0 [] [] 1 400 (bodyOf Try.f38) ⟨8, slots 0 [.snil], tabU [] [], []⟩).elim (kRet 8 pout_slices_Clone_api_Item (kpL []) [])
theorem FA_slices_Clone_api_Item_eq : FA_slices_Clone_api_Item = some [] := by kernel_rfl
theorem WN_slices_Clone_api_Item (N : Nat) (r : List (Int × List UInt8)) (h : W_slices_Clone_api_Item N [] = some r) : r = [] := by
  have e : W_slices_Clone_api_Item N [] = some [] := by kernel_rfl
  rw [e] at h; injection h with h; exact h.symm
theorem con_slices_Clone_api_Item_ok (N : Nat) : Con.ok P0 (con_slices_Clone_api_Item N) := ⟨⟨Try.f38, Try.func38, by kernel_rfl, by kernel_rfl⟩, fun (x : List (Int × List UInt8)) (r : List (Int × List UInt8)) (hr : W_slices_Clone_api_Item N x = some r) =>
  clone_split (e := (.agg (.pair (.int .i64) .str))) (ty := 42) (l := x) (r := r)
    (spec2_evT (Γ := G_slices_Clone_api_Item 1) (Λ := L0) (lb := []) (pout := pout_slices_Clone_api_Item) (kp := kpL []) mixed (orcOf_ok [] (by simp)) Try.func38 (c := bodyOf Try.f38) (by kernel_rfl) (by kernel_rfl) (of_decide_eq_true (by kernel_rfl)) FA_slices_Clone_api_Item_eq (R_slices_Clone_api_Item_eq x []))
    (spec2_evT (Γ := G_slices_Clone_api_Item N) (Λ := L0) (lb := []) (pout := pout_slices_Clone_api_Item) (kp := kpL []) mixed (orcOf_ok [] (by simp)) Try.func38 (c := bodyOf Try.f38) (by kernel_rfl) (by kernel_rfl) (of_decide_eq_true (by kernel_rfl)) ((F_slices_Clone_api_Item_eq N x).trans hr) (R_slices_Clone_api_Item_eq x r))
    (fun h => by subst h; exact WN_slices_Clone_api_Item N r hr)⟩
noncomputable def u_win_place : Uf := ⟨39, 32, Try.f39, [.val (.list (.agg (.pair (.int .i64) .str))), .val (.int .i64)], [],
⟨[(4, .val (.alt 89 (.agg (.int .i64)) (.alt1 122 (.agg .unit))))], []⟩, [],
[(2, .loop [7] ⟨[(9, .val (.int .i64))], []⟩ [(.exit 0, ⟨[], []⟩), (.ret, ⟨[(4, .val (.alt 89 (.agg (.int .i64)) (.alt1 122 (.agg .unit))))], []⟩)])],
[], fun y => (valW (.alt 89 (.agg (.int .i64)) (.alt1 122 (.agg .unit))) y, [], [])⟩
noncomputable def V_win_place (N : Nat) (x : (List (Int × List UInt8)) × Int) : Option (Int ⊕ Unit) :=
  obind (loopN N (fun (v : Int) => cnd (decide (v < (↑(List.length x.1) : Int))) (cnd (decide ((0:Int) ≤ v) && decide (v < (↑(List.length x.1) : Int)))
    (cnd (decide (Prod.fst (List.getD x.1 (Int.toNat v) ((0:Int), [])) = x.2)) (some (Sum.inr (Sum.inr (Sum.inr ())))) (cnd (decide (x.2 < Prod.fst
    (List.getD x.1 (Int.toNat v) ((0:Int), [])))) (some (Sum.inr (Sum.inr (Sum.inl v)))) (some (Sum.inl (wr .i64 (v + (1:Int))))))) none) (some (Sum.inr
    (Sum.inl ())))) (Int.ofNat (0:Nat))) fun (b : PUnit ⊕ Int ⊕ PUnit) => selim (fun (b : PUnit) => some (Sum.inl (↑(List.length x.1) : Int))) (fun (c :
    Int ⊕ PUnit) => some c) b
theorem q_win_place : ∀ N x, u_win_place.F L0 P0 (orcOf []) N x = V_win_place N x := by intros; kernel_rfl
noncomputable def W_win_place (N : Nat) := V_win_place N
theorem con_win_place_ok (N : Nat) : (u_win_place.con (W_win_place N)).ok P0 := Uf.ok mixed (q_win_place N) trivial Try.func39 (by kernel_rfl) fun x y => by kernel_rfl
def as_slices_Insert_api_Item : List AS := [.acc 0, .val (.int .i64), .val (.list (.agg (.pair (.int .i64) .str)))]
def bs_slices_Insert_api_Item : List BS := [.nrow 42 (.agg (.pair (.int .i64) .str)) true]
def out_slices_Insert_api_Item (y : List (Int × List UInt8)) : V × List OK × List OK := (.acc 2000000 0, [.dead], [.nrow 42 false true ⟨(.agg (.pair (.int .i64) .str)), y⟩])
noncomputable def W_slices_Insert_api_Item (N : Nat) (x : Int × (List (Int × List UInt8)) × List (Int × List UInt8)) : Option (List (Int × List UInt8)) :=
  cnd (decide ((0:Int) ≤ x.1) && decide (x.1 ≤ ((↑(List.length x.2.2) : Int) : Int)) && decide (List.length x.2.1 = (1:Nat)) && decide ((List.length x.2.2 + (1:Nat)) * (24:Nat) ≤ (140737488355328:Nat))) (some (List.take (Int.toNat x.1) x.2.2 ++ (x.2.1 ++ List.drop (Int.toNat x.1) x.2.2))) none
noncomputable def conw_slices_Insert_api_Item (w : Int × (List (Int × List UInt8)) × List (Int × List UInt8) → Option (List (Int × List UInt8))) : Con := ⟨40, as_slices_Insert_api_Item, bs_slices_Insert_api_Item, List (Int × List UInt8), w, out_slices_Insert_api_Item⟩
noncomputable def con_slices_Insert_api_Item (N : Nat) : Con := conw_slices_Insert_api_Item (W_slices_Insert_api_Item N)
theorem con_slices_Insert_api_Item_ok (N : Nat) : Con.ok P0 (con_slices_Insert_api_Item N) := ⟨⟨Try.f40, Try.func40, by kernel_rfl, by kernel_rfl⟩, fun (x : Int × (List (Int × List UInt8)) × List (Int × List UInt8)) (r : List (Int × List UInt8)) (hr : W_slices_Insert_api_Item N x = some r) => by
  obtain ⟨i, s, l⟩ := x
  exact ins_con (e := (.agg (.pair (.int .i64) .str))) (t := 37) (ty := 42) (bytes := 24) (nl := true) (l := l) (r := s) (q := r) (i := i) insN40 insP40 rfl (by decide) (by decide) (by decide) hr⟩
noncomputable def u_win_Put : Uf := ⟨14, 43, Try.f14, [.val (.list (.agg (.pair (.int .i64) .str))), .val (.int .i64), .val (.agg (.pair (.int .i64) .str))], [],
⟨[(6, .val (.list (.agg (.pair (.int .i64) .str)))), (7, .val .bool)], []⟩, [],
[],
[(1000003, .reg [(8, [], ⟨[(5, .ptr 600005 0), (8, .acc 700042), (9, .ptr 600009 0), (28, .val .bool)], [(600005, .box 42 (.val (.pair (.int .i64) .str))), (700042, .nrow 42 (.agg (.pair (.int .i64) .str)) false true), (600009, .box 89 (.val (.int .i64)))]⟩)])], fun y => (.tup [valW (.list (.agg (.pair (.int .i64) .str))) y.1, valW .bool y.2], [], [])⟩
noncomputable def V_win_Put (w_slices_Clone_api_Item : List (Int × List UInt8) → Option (List (Int × List UInt8))) (w_win_place : (List (Int × List UInt8)) × Int → Option (Int ⊕ Unit)) (w_slices_Insert_api_Item : Int × (List (Int × List UInt8)) × List (Int × List UInt8) → Option (List (Int × List UInt8))) (N : Nat) (x : (List (Int × List UInt8)) × Int × Int × List UInt8) : Option ((List (Int × List UInt8)) × Bool) :=
  obind (w_slices_Clone_api_Item x.1) fun b => obind (w_win_place (x.1, x.2.2.1)) fun b_1 => selim (fun (b_2 : Int) => cnd (decide (x.2.2.1 <
    x.2.1)) (some (b, false)) (cnd (decide (wr .i64 (x.2.1 + (8:Int)) ≤ x.2.2.1)) (some (b, false)) (obind (w_slices_Insert_api_Item (b_2, [x.2.2],
    b)) fun b => some (b, true)))) (fun (c : PUnit) => cnd true (some (b, false)) (cnd (decide (wr .i64 (x.2.1 + (8:Int)) ≤ x.2.2.1)) (some (b, false))
    (obind (w_slices_Insert_api_Item ((0:Int), [x.2.2], b)) fun b => some (b, true)))) b_1
theorem q_win_Put : ∀ w_slices_Clone_api_Item w_win_place w_slices_Insert_api_Item N x, u_win_Put.F L0 P0 (orcOf [conw_slices_Clone_api_Item w_slices_Clone_api_Item, u_win_place.con w_win_place, conw_slices_Insert_api_Item w_slices_Insert_api_Item]) N x = V_win_Put w_slices_Clone_api_Item w_win_place w_slices_Insert_api_Item N x := by intros; kernel_rfl
noncomputable def W_win_Put (N : Nat) := V_win_Put (W_slices_Clone_api_Item N) (W_win_place N) (W_slices_Insert_api_Item N) N
theorem con_win_Put_ok (N : Nat) : (u_win_Put.con (W_win_Put N)).ok P0 := Uf.ok mixed (q_win_Put (W_slices_Clone_api_Item N) (W_win_place N) (W_slices_Insert_api_Item N) N) ⟨con_slices_Clone_api_Item_ok N, con_win_place_ok N, con_slices_Insert_api_Item_ok N, trivial⟩ Try.func14 (by kernel_rfl) fun x y => by kernel_rfl
noncomputable def u_win_Take : Uf := ⟨15, 27, Try.f15, [.val (.list (.agg (.pair (.int .i64) .str))), .val (.int .i64)], [],
⟨[(4, .val (.list (.agg (.pair (.int .i64) .str)))), (5, .ptr 600005 0), (6, .val .bool)], [(600005, .box 42 (.val (.pair (.int .i64) .str)))]⟩, [],
[],
[], fun y => (.tup [valW (.list (.agg (.pair (.int .i64) .str))) y.1, valW (.agg (.pair (.int .i64) .str)) y.2.2, valW .bool y.2.1], [], [])⟩
noncomputable def V_win_Take (w_slices_Clone_api_Item : List (Int × List UInt8) → Option (List (Int × List UInt8))) (N : Nat) (x : (List (Int × List UInt8)) × Int) : Option ((List (Int × List UInt8)) × Bool × Int × List UInt8) :=
  cnd (decide ((↑(List.length x.1) : Int) = (0:Int))) (obind (w_slices_Clone_api_Item x.1) fun b => some (b, false, (0:Int), [])) (cnd (decide
    ((0:Int) ≤ (0:Int)) && decide ((0:Int) < (↑(List.length x.1) : Int))) (cnd (decide (Prod.fst (List.getD x.1 (0:Nat) ((0:Int), [])) ≠ x.2)) (obind
    (w_slices_Clone_api_Item x.1) fun b => some (b, false, (0:Int), [])) (cnd (decide ((0:Int) ≤ (1:Int)) && decide ((1:Int) ≤ (↑(List.length x.1) :
    Int))) (obind (w_slices_Clone_api_Item (List.drop (1:Nat) (List.take (List.length x.1) x.1))) fun b => cnd (decide ((0:Int) ≤ (0:Int)) && decide
    ((0:Int) < (↑(List.length x.1) : Int))) (some (b, true, Prod.fst (List.getD x.1 (0:Nat) ((0:Int), [])), Prod.snd (List.getD x.1 (0:Nat) ((0:Int),
    [])))) none) none)) none)
theorem q_win_Take : ∀ w_slices_Clone_api_Item N x, u_win_Take.F L0 P0 (orcOf [conw_slices_Clone_api_Item w_slices_Clone_api_Item]) N x = V_win_Take w_slices_Clone_api_Item N x := by intros; kernel_rfl
noncomputable def W_win_Take (N : Nat) := V_win_Take (W_slices_Clone_api_Item N) N
theorem con_win_Take_ok (N : Nat) : (u_win_Take.con (W_win_Take N)).ok P0 := Uf.ok mixed (q_win_Take (W_slices_Clone_api_Item N) N) ⟨con_slices_Clone_api_Item_ok N, trivial⟩ Try.func15 (by kernel_rfl) fun x y => by kernel_rfl
noncomputable def u_win_First : Uf := ⟨16, 10, Try.f16, [.val (.list (.agg (.pair (.int .i64) .str)))], [],
⟨[(2, .val (.int .i64))], []⟩, [],
[],
[], fun y => (valW (.int .i64) y, [], [])⟩
noncomputable def V_win_First (N : Nat) (x : List (Int × List UInt8)) : Option (Int) :=
  cnd (decide ((↑(List.length x) : Int) = (0:Int))) (some (0:Int)) (cnd (decide ((0:Int) ≤ (0:Int)) && decide ((0:Int) < (↑(List.length x) : Int))) (some (Prod.fst (List.getD x (0:Nat) ((0:Int), [])))) none)
theorem q_win_First : ∀ N x, u_win_First.F L0 P0 (orcOf []) N x = V_win_First N x := by intros; kernel_rfl
noncomputable def W_win_First (N : Nat) := V_win_First N
theorem con_win_First_ok (N : Nat) : (u_win_First.con (W_win_First N)).ok P0 := Uf.ok mixed (q_win_First N) trivial Try.func16 (by kernel_rfl) fun x y => by kernel_rfl
noncomputable def u_law15_begun : Uf := ⟨13, 58, Try.f13, [], [],
⟨[(0, .val .bool)], []⟩, [],
[],
[(1000004, .reg [(6, [1, 6], ⟨[(7, .ptr 600007 0), (31, .val .bool)], [(600007, .box 42 (.val (.pair (.int .i64) .str)))]⟩), (4, [1, 6], ⟨[(7, .ptr 600007 0), (35, .val .bool)], [(600007, .box 42 (.val (.pair (.int .i64) .str)))]⟩), (5, [1], ⟨[(7, .ptr 600007 0), (40, .val .bool)], [(600007, .box 42 (.val (.pair (.int .i64) .str)))]⟩), (5, [1], ⟨[(45, .val .bool)], []⟩), (3, [1], ⟨[(48, .val .bool)], []⟩), (5, [], ⟨[(53, .val .bool)], []⟩)])], fun y => (valW .bool y, [], [])⟩
noncomputable def V_law15_begun (w_win_Put : (List (Int × List UInt8)) × Int × Int × List UInt8 → Option ((List (Int × List UInt8)) × Bool)) (w_win_Take : (List (Int × List UInt8)) × Int → Option ((List (Int × List UInt8)) × Bool × Int × List UInt8)) (w_win_First : List (Int × List UInt8) → Option (Int)) (N : Nat) (x : Unit) : Option (Bool) :=
  obind (w_win_Put ([], (2:Int), (3:Int), [(120 : UInt8)])) fun b => obind (w_win_Take (b.1, (2:Int))) fun b_1 => obind (w_win_Take (b.1,
    (3:Int))) fun b_2 => obind (cnd b.2 (some (decide ((↑(List.length b.1) : Int) = (1:Int)), b_2.2.2)) (some (false, b_2.2.2))) fun (b_3 : Bool × Int ×
    List UInt8) => obind (cnd b_3.1 (some (!b_1.2.1, b_3.2)) (some (false, b_3.2))) fun (b_4 : Bool × Int × List UInt8) => obind (cnd b_4.1 (some
    (decide ((↑(List.length b_2.1) : Int) = (0:Int)), b_4.2)) (some (false, b_4.2))) fun (b_5 : Bool × Int × List UInt8) => obind (cnd b_5.1 (some
    (b_5.2.2 == [(120 : UInt8)])) (some false)) fun (b_6 : Bool) => obind (cnd b_6 (some b_2.2.1) (some false)) fun (b_7 : Bool) => obind (cnd b_7
    (obind (w_win_First b.1) fun b => some (decide (b = (3:Int)))) (some false)) fun (b : Bool) => cnd b (obind (w_win_First []) fun b => some
    (decide (b = (0:Int)))) (some false)
theorem q_law15_begun : ∀ w_win_Put w_win_Take w_win_First N x, u_law15_begun.F L0 P0 (orcOf [u_win_Put.con w_win_Put, u_win_Take.con w_win_Take, u_win_First.con w_win_First]) N x = V_law15_begun w_win_Put w_win_Take w_win_First N x := by intros; kernel_rfl
noncomputable def W_law15_begun (N : Nat) := V_law15_begun (W_win_Put N) (W_win_Take N) (W_win_First N) N
theorem con_law15_begun_ok (N : Nat) : (u_law15_begun.con (W_law15_begun N)).ok P0 := Uf.ok mixed (q_law15_begun (W_win_Put N) (W_win_Take N) (W_win_First N) N) ⟨con_win_Put_ok N, con_win_Take_ok N, con_win_First_ok N, trivial⟩ Try.func13 (by kernel_rfl) fun x y => by kernel_rfl
noncomputable def u_law15_WinOrder : Uf := ⟨4, 138, Try.f4, [.val (.list (.int .u8))], [],
⟨[(2, .val .bool)], []⟩, [],
[(19, .loop [] ⟨[(3, .val (.list (.agg (.pair (.int .i64) .str)))), (4, .val (.int .i64)), (5, .val .str), (6, .mp 800020)], [(800020, .mp .bool)]⟩ [(.exit 2, ⟨[(3, .val (.list (.agg (.pair (.int .i64) .str)))), (4, .val (.int .i64)), (5, .val .str), (6, .mp 800020)], [(800020, .mp .bool)]⟩), (.ret, ⟨[(2, .val .bool)], []⟩)]),
(10, .loop [] ⟨[(3, .val (.list (.agg (.pair (.int .i64) .str)))), (4, .val (.int .i64)), (5, .val .str), (6, .mp 800020), (7, .val (.int .i64))], [(800020, .mp .bool)]⟩ [(.exit 0, ⟨[(4, .val (.int .i64)), (5, .val .str)], []⟩), (.ret, ⟨[(2, .val .bool)], []⟩)]),
(27, .loop [] ⟨[(14, .val (.int .i64))], []⟩ [(.exit 4, ⟨[], []⟩), (.ret, ⟨[(2, .val .bool)], []⟩)])],
[(1000014, .reg [(10, [9], ⟨[(6, .mp 800020), (50, .val .bool), (59, .val .bool)], [(800020, .mp .bool)]⟩)]),
(18, .cut [9] [(.normal, ⟨[(6, .mp 800020)], [(800020, .mp .bool)]⟩)])], fun y => (valW .bool y, [], [])⟩
noncomputable def V_law15_WinOrder (w_law15_begun : Unit → Option (Bool)) (w_win_Put : (List (Int × List UInt8)) × Int × Int × List UInt8 → Option ((List (Int × List UInt8)) × Bool)) (w_win_Take : (List (Int × List UInt8)) × Int → Option ((List (Int × List UInt8)) × Bool × Int × List UInt8)) (w_win_First : List (Int × List UInt8) → Option (Int)) (N : Nat) (x : List Int) : Option (Bool) :=
  obind (w_law15_begun ()) fun b => cnd (!b) (some false) (cnd (decide ((40:Int) < (↑(List.length x) : Int))) (some true) (obind (loopN N (fun (v :
    List (Int × List UInt8) × Int × List UInt8 × Int × List (Int × Bool)) => cnd (decide (v.2.2.2.1 < (↑(List.length x) : Int))) (cnd (decide ((0:Int) ≤
    v.2.2.2.1) && decide (v.2.2.2.1 < (↑(List.length x) : Int))) (cnd (List.all [wr .u8 (wr .i64 ((97:Int) + Int.tmod (wr .i64 (wr .i64 (v.2.1 -
    (2:Int)) + wr .i64 (Int.tmod (List.getD x (Int.toNat v.2.2.2.1) (0:Int)) (12:Int)))) (26:Int)))] fun (n : Int) => decide ((0:Int) ≤ n) && decide (n
    < (256:Int))) (obind (w_win_Put (v.1, v.2.1, wr .i64 (wr .i64 (v.2.1 - (2:Int)) + wr .i64 (Int.tmod (List.getD x (Int.toNat v.2.2.2.1) (0:Int))
    (12:Int))), bytesI [wr .u8 (wr .i64 ((97:Int) + Int.tmod (wr .i64 (wr .i64 (v.2.1 - (2:Int)) + wr .i64 (Int.tmod (List.getD x (Int.toNat v.2.2.2.1)
    (0:Int)) (12:Int)))) (26:Int)))])) fun b => obind (cnd (decide (v.2.1 ≤ wr .i64 (wr .i64 (v.2.1 - (2:Int)) + wr .i64 (Int.tmod (List.getD x
    (Int.toNat v.2.2.2.1) (0:Int)) (12:Int))))) (some (b.2, decide (wr .i64 (wr .i64 (v.2.1 - (2:Int)) + wr .i64 (Int.tmod (List.getD x (Int.toNat
    v.2.2.2.1) (0:Int)) (12:Int))) < wr .i64 (v.2.1 + (8:Int))), v.2.2.2.2)) (some (b.2, false, v.2.2.2.2))) fun (b_1 : Bool × Bool × List (Int × Bool))
    => cnd b_1.2.1 (cnd (!b_1.1 == !mget false (wr .i64 (wr .i64 (v.2.1 - (2:Int)) + wr .i64 (Int.tmod (List.getD x (Int.toNat v.2.2.2.1) (0:Int))
    (12:Int)))) b_1.2.2) (some (Sum.inr (Sum.inr false))) (obind (cnd b.2 (some (mput (wr .i64 (wr .i64 (v.2.1 - (2:Int)) + wr .i64 (Int.tmod (List.getD
    x (Int.toNat v.2.2.2.1) (0:Int)) (12:Int)))) true b_1.2.2)) (some b_1.2.2)) fun (b_2 : List (Int × Bool)) => obind (loopN N (fun (v : List (Int ×
    List UInt8) × Int × List UInt8 × List (Int × Bool)) => obind (w_win_Take (v.1, v.2.1)) fun b => cnd (!b.2.1 == mget false v.2.1 v.2.2.2) (some
    (Sum.inr (Sum.inr false))) (cnd b.2.1 (cnd (decide (b.2.2.1 ≠ v.2.1)) (some (Sum.inr (Sum.inr false))) (cnd (decide ((↑(List.length b.1) : Int) ≠ wr
    .i64 ((↑(List.length v.1) : Int) - (1:Int)))) (some (Sum.inr (Sum.inr false))) (cnd (!b.2.1) (some (Sum.inr (Sum.inl v))) (cnd (decide (List.length
    v.2.2.1 + List.length b.2.2.2 ≤ (9223372036854775807:Nat))) (some (Sum.inl (b.1, wr .i64 (v.2.1 + (1:Int)), v.2.2.1 ++ b.2.2.2, v.2.2.2))) none))))
    (cnd (!b.2.1) (some (Sum.inr (Sum.inl v))) (cnd (decide (List.length v.2.2.1 + List.length b.2.2.2 ≤ (9223372036854775807:Nat))) (some (Sum.inl
    (b.1, wr .i64 (v.2.1 + (1:Int)), v.2.2.1 ++ b.2.2.2, v.2.2.2))) none)))) (b.1, v.2.1, v.2.2.1, b_2)) fun (b : List (Int × List UInt8) × Int × List
    UInt8 × List (Int × Bool) ⊕ Bool) => selim (fun (b : List (Int × List UInt8) × Int × List UInt8 × List (Int × Bool)) => obind (w_win_First b.1)
    fun b_3 => cnd (decide (b_3 ≠ (0:Int))) (obind (w_win_First b.1) fun b_4 => cnd (decide (b_4 ≤ b.2.1)) (some (Sum.inr (Sum.inr false))) (some
    (Sum.inl (b.1, b.2.1, b.2.2.1, wr .i64 (v.2.2.2.1 + (1:Int)), b.2.2.2)))) (some (Sum.inl (b.1, b.2.1, b.2.2.1, wr .i64 (v.2.2.2.1 + (1:Int)),
    b.2.2.2)))) (fun (c : Bool) => some (Sum.inr (Sum.inr c))) b)) (cnd (!b_1.1 == false) (some (Sum.inr (Sum.inr false))) (obind (cnd b.2 (some (mput
    (wr .i64 (wr .i64 (v.2.1 - (2:Int)) + wr .i64 (Int.tmod (List.getD x (Int.toNat v.2.2.2.1) (0:Int)) (12:Int)))) true b_1.2.2)) (some b_1.2.2)) fun
    (b_2 : List (Int × Bool)) => obind (loopN N (fun (v : List (Int × List UInt8) × Int × List UInt8 × List (Int × Bool)) => obind (w_win_Take (v.1,
    v.2.1)) fun b => cnd (!b.2.1 == mget false v.2.1 v.2.2.2) (some (Sum.inr (Sum.inr false))) (cnd b.2.1 (cnd (decide (b.2.2.1 ≠ v.2.1)) (some (Sum.inr
    (Sum.inr false))) (cnd (decide ((↑(List.length b.1) : Int) ≠ wr .i64 ((↑(List.length v.1) : Int) - (1:Int)))) (some (Sum.inr (Sum.inr false))) (cnd
    (!b.2.1) (some (Sum.inr (Sum.inl v))) (cnd (decide (List.length v.2.2.1 + List.length b.2.2.2 ≤ (9223372036854775807:Nat))) (some (Sum.inl (b.1, wr
    .i64 (v.2.1 + (1:Int)), v.2.2.1 ++ b.2.2.2, v.2.2.2))) none)))) (cnd (!b.2.1) (some (Sum.inr (Sum.inl v))) (cnd (decide (List.length v.2.2.1 +
    List.length b.2.2.2 ≤ (9223372036854775807:Nat))) (some (Sum.inl (b.1, wr .i64 (v.2.1 + (1:Int)), v.2.2.1 ++ b.2.2.2, v.2.2.2))) none)))) (b.1,
    v.2.1, v.2.2.1, b_2)) fun (b : List (Int × List UInt8) × Int × List UInt8 × List (Int × Bool) ⊕ Bool) => selim (fun (b : List (Int × List UInt8) ×
    Int × List UInt8 × List (Int × Bool)) => obind (w_win_First b.1) fun b_3 => cnd (decide (b_3 ≠ (0:Int))) (obind (w_win_First b.1) fun b_4 => cnd
    (decide (b_4 ≤ b.2.1)) (some (Sum.inr (Sum.inr false))) (some (Sum.inl (b.1, b.2.1, b.2.2.1, wr .i64 (v.2.2.2.1 + (1:Int)), b.2.2.2)))) (some
    (Sum.inl (b.1, b.2.1, b.2.2.1, wr .i64 (v.2.2.2.1 + (1:Int)), b.2.2.2)))) (fun (c : Bool) => some (Sum.inr (Sum.inr c))) b))) none) none) (some
    (Sum.inr (Sum.inl (v.2.1, v.2.2.1))))) ([], (5:Int), [], (0:Int), [])) fun (b : Int × List UInt8 ⊕ Bool) => selim (fun (b : Int × List UInt8) =>
    obind (loopN N (fun (v : Int) => cnd (decide (v < (↑(List.length b.2) : Int))) (cnd (decide ((0:Int) ≤ v) && decide (v < (↑(List.length b.2) :
    Int))) (cnd (decide ((↑(UInt8.toNat (List.getD b.2 (Int.toNat v) (0 : UInt8))) : Int) ≠ wr .u8 (wr .i64 ((97:Int) + Int.tmod (wr .i64 ((5:Int) + v))
    (26:Int))))) (some (Sum.inr (Sum.inr false))) (some (Sum.inl (wr .i64 (v + (1:Int)))))) none) (some (Sum.inr (Sum.inl ())))) (Int.ofNat (0:Nat)))
    fun (b_1 : PUnit ⊕ Bool) => selim (fun (b_2 : PUnit) => some (decide ((↑(List.length b.2) : Int) = wr .i64 (b.1 - (5:Int))))) (fun (c : Bool) =>
    some c) b_1) (fun (c : Bool) => some c) b))
theorem q_law15_WinOrder : ∀ w_law15_begun w_win_Put w_win_Take w_win_First N x, u_law15_WinOrder.F L0 P0 (orcOf [u_law15_begun.con w_law15_begun, u_win_Put.con w_win_Put, u_win_Take.con w_win_Take, u_win_First.con w_win_First]) N x = V_law15_WinOrder w_law15_begun w_win_Put w_win_Take w_win_First N x := by intros; kernel_rfl
noncomputable def W_law15_WinOrder (N : Nat) := V_law15_WinOrder (W_law15_begun N) (W_win_Put N) (W_win_Take N) (W_win_First N) N
theorem con_law15_WinOrder_ok (N : Nat) : (u_law15_WinOrder.con (W_law15_WinOrder N)).ok P0 := Uf.ok mixed (q_law15_WinOrder (W_law15_begun N) (W_win_Put N) (W_win_Take N) (W_win_First N) N) ⟨con_law15_begun_ok N, con_win_Put_ok N, con_win_Take_ok N, con_win_First_ok N, trivial⟩ Try.func4 (by kernel_rfl) fun x y => by kernel_rfl
/-! What is reckoned. -/
-- PURE
theorem wr_m {z : Int} (h : -140737488355328 ≤ z) (h2 : z ≤ 140737488355328) : wr .i64 z = z := wr_i64 (by omega) (by omega)
theorem cnd_T {α : Type} {p : Prop} {i : Decidable p} {x y : α} (h : p) : cnd (@decide p i) x y = x := by rw [decide_eq_true h]; rfl
theorem cnd_F {α : Type} {p : Prop} {i : Decidable p} {x y : α} (h : ¬ p) : cnd (@decide p i) x y = y := by rw [decide_eq_false h]; rfl
theorem loopG {σ ρ : Type} {f : σ → Option (σ ⊕ ρ)} (I : Nat → σ → Prop) (B : Nat) (J : ρ → Prop) (hb : ∀ k x, I k x → k ≤ B) (hs : ∀ k x, I k x → (∃ y, f x = some (.inl y) ∧ I (k + 1) y) ∨ ∃ r, f x = some (.inr r) ∧ J r) :
    ∀ (M k : Nat) (x : σ), I k x → B < M + k → ∃ r, loopN M f x = some r ∧ J r
  | 0, k, x, h, hm => by have := hb k x h; omega
  | M + 1, k, x, h, hm => by
    rcases hs k x h with ⟨y, h1, h2⟩ | ⟨r, h1, h2⟩
    · obtain ⟨r, h4, h5⟩ := loopG I B J hb hs M (k + 1) y h2 (by omega)
      exact ⟨r, by simp only [loopN, h1]; exact h4, h5⟩
    · exact ⟨r, by simp only [loopN, h1], h2⟩
theorem loop_G {σ ρ β : Type} {f : σ → Option (σ ⊕ ρ)} {g : ρ → Option β} {x : σ} {N : Nat} (Q : Option β → Prop) (I : Nat → σ → Prop) (B : Nat) (J : ρ → Prop) (hx : I 0 x) (hm : B < N) (hk : ∀ r, J r → Q (g r)) (hb : ∀ k x, I k x → k ≤ B)
    (hs : ∀ k x, I k x → (∃ y, f x = some (.inl y) ∧ I (k + 1) y) ∨ ∃ r, f x = some (.inr r) ∧ J r) : Q (obind (loopN N f x) g) := by
  obtain ⟨r, h1, h2⟩ := loopG I B J hb hs N 0 x hx (by omega)
  rw [h1]; exact hk r h2
abbrev It := Int × List UInt8
abbrev iD : It := ((0 : Int), ([] : List UInt8))
abbrev Ev := Int × Int × Int × List UInt8 × Int
abbrev Fd := Int × Int × List It × List It × List Ev × Int × Int
def addR (l : List It) (e : It) : List It := if 6 ≤ l.length then (l ++ [e]).drop 1 else l ++ [e]
theorem addR_len (l : List It) (e : It) (hl : l.length ≤ 6) : (addR l e).length = min (l.length + 1) 6 := by
  unfold addR
  split <;> simp <;> omega
theorem drop_consI {l : List It} {i : Nat} (h : i < l.length) : l.drop i = l.getD i iD :: l.drop (i + 1) := by
  rw [List.drop_eq_getElem_cons h, List.getD_eq_getElem?_getD, List.getElem?_eq_getElem h]; rfl
/-- What a row has under a number. -/
def getF : List It → Int → List UInt8 × Bool
  | [], _ => ([], false)
  | w :: r, s => if w.1 = s then (w.2, true) else getF r s
/-- Rising from n on, up to K. -/
def Wk (n K : Int) : List It → Prop
  | [] => True
  | w :: r => n ≤ w.1 ∧ w.1 ≤ K ∧ Wk (w.1 + 1) K r
theorem Wk.mono : ∀ {l : List It} {n n' K K' : Int}, Wk n K l → n' ≤ n → K ≤ K' → Wk n' K' l
  | [], _, _, _, _, _, _, _ => trivial
  | w :: r, n, n', K, K', h, h1, h2 => ⟨by have := h.1; omega, by have := h.2.1; omega, h.2.2.mono (Int.le_refl _) h2⟩
theorem Wk.mem : ∀ {l : List It} {n K : Int}, Wk n K l → ∀ w ∈ l, n ≤ w.1 ∧ w.1 ≤ K
  | [], _, _, _, _, h => by simp at h
  | x :: r, n, K, h, w, hw => by
    rcases List.mem_cons.1 hw with rfl | hw
    · exact ⟨h.1, h.2.1⟩
    · have := h.2.2.mem w hw; have := h.1; omega
theorem Wk.snoc : ∀ {l : List It} {n K K' : Int} {e : It}, Wk n K l → n ≤ e.1 → K < e.1 → e.1 ≤ K' → Wk n K' (l ++ [e])
  | [], _, _, _, _, _, h1, _, h3 => ⟨h1, h3, trivial⟩
  | w :: r, n, K, K', e, h, h1, h2, h3 => by
    have := h.2.1
    exact ⟨h.1, by omega, h.2.2.snoc (by omega) h2 h3⟩
theorem Wk.drop1 : ∀ {l : List It} {n K : Int}, Wk n K l → Wk n K (l.drop 1)
  | [], _, _, _ => trivial
  | w :: r, n, K, h => h.2.2.mono (by have := h.1; omega) (Int.le_refl _)
theorem Wk.ring {l : List It} {n : Int} {e : It} {K : Int} (h : Wk 1 (n - 1) l) (h1 : 1 ≤ n) (he : e.1 = n) (hK : n ≤ K) : Wk 1 K (addR l e) := by
  have := h.snoc (e := e) (K' := K) (by omega) (by omega) (by omega)
  unfold addR
  split
  · exact this.drop1
  · exact this
theorem getF_none : ∀ {l : List It} {n K : Int}, Wk n K l → ∀ s, s < n → getF l s = ([], false)
  | [], _, _, _, _, _ => rfl
  | w :: r, n, K, h, s, hs => by
    have := h.1
    simp only [getF]
    rw [if_neg (by omega)]
    exact getF_none h.2.2 s (by omega)
def insW (x : It) : List It → List It
  | [] => [x]
  | w :: r => if x.1 < w.1 then x :: w :: r else w :: insW x r
theorem insW_len (x : It) : ∀ l, (insW x l).length = l.length + 1
  | [] => rfl
  | w :: r => by
    simp only [insW]
    split
    · rfl
    · simp only [List.length_cons, insW_len x r]
theorem Wk.ins : ∀ {l : List It} {n K : Int} {x : It}, Wk n K l → n ≤ x.1 → x.1 ≤ K → (getF l x.1).2 = false → Wk n K (insW x l)
  | [], n, K, x, _, h1, h2, _ => ⟨h1, h2, trivial⟩
  | w :: r, n, K, x, h, h1, h2, h3 => by
    simp only [getF] at h3
    by_cases c : w.1 = x.1
    · rw [if_pos c] at h3; cases h3
    rw [if_neg c] at h3
    simp only [insW]
    split
    · exact ⟨h1, h2, by omega, h.2.1, h.2.2⟩
    · exact ⟨h.1, h.2.1, h.2.2.ins (by omega) h2 h3⟩
/-- What an item is put to. -/
def putM (l : List It) (n : Int) (x : It) : List It × Bool :=
  if x.1 < n ∨ 8 ≤ x.1 - n ∨ (getF l x.1).2 = true then (l, false) else (insW x l, true)
/-- What is told whose turn it is: items, next, ring, window, log. -/
def goM : List It → Int → List It → List Ev → List It × Int × List It × List It × List Ev
  | [], n, R, L => ([], n, R, [], L)
  | w :: r, n, R, L => if w.1 = n then (w :: (goM r (n + 1) (addR R w) (L ++ [(1, w.1, w.1, w.2, 0)])).1, (goM r (n + 1) (addR R w) (L ++ [(1, w.1, w.1, w.2, 0)])).2) else ([], n, R, w :: r, L)
def goesM (f : Fd) : List It × Fd :=
  let q := goM f.2.2.2.1 f.1 f.2.2.1 f.2.2.2.2.1
  (q.1, q.2.1, f.2.1, q.2.2.1, q.2.2.2.1, q.2.2.2.2, if q.1 = [] then f.2.2.2.2.2 else (0, 0))
/-- A log that goes from n up to m. -/
def Ch : Int → List Ev → Int → Prop
  | n, [], m => n = m
  | n, e :: r, m => e.2.1 = n ∧ e.2.1 ≤ e.2.2.1 ∧ Ch (e.2.2.1 + 1) r m
theorem Ch.snoc : ∀ {L : List Ev} {n m : Int} {e : Ev}, Ch n L m → e.2.1 = m → m ≤ e.2.2.1 → Ch n (L ++ [e]) (e.2.2.1 + 1)
  | [], _, _, e, h, h1, h2 => by have h' : _ = _ := h; exact ⟨by omega, by omega, rfl⟩
  | x :: r, n, m, e, h, h1, h2 => ⟨h.1, h.2.1, h.2.2.snoc h1 h2⟩
/-- Such parts of a feed as may be. -/
structure Fp (K c n : Int) (R W : List It) (L : List Ev) : Prop where
  nx : 1 ≤ n ∧ n ≤ K + 1
  rk : Wk 1 (n - 1) R
  rl : R.length ≤ 6
  wk : Wk n (min K (n + 7)) W
  ch : Ch c L n
  c0 : 0 ≤ c
theorem Fp.tell {K c n : Int} {R r : List It} {w : It} {L : List Ev} (h : Fp K c n R (w :: r) L) (hw : w.1 = n) : Fp K c (n + 1) (addR R w) r (L ++ [(1, w.1, w.1, w.2, 0)]) := by
  obtain ⟨⟨a, b⟩, rk, rl, wk, ch, c0⟩ := h
  have hk := wk.2.1
  refine ⟨⟨by omega, by omega⟩, rk.ring a hw (by omega), by rw [addR_len _ _ rl]; omega, wk.2.2.mono (by omega) (by omega), ?_, c0⟩
  have := ch.snoc (e := (1, w.1, w.1, w.2, 0)) hw (by simp only; omega)
  simp only at this
  rw [hw] at this ⊢
  exact this
/-- What goes is as it may be; how far it went. -/
theorem goM_ok {K c : Int} : ∀ (W : List It) (n : Int) (R : List It) (L : List Ev), Fp K c n R W L → Fp K c (goM W n R L).2.1 (goM W n R L).2.2.1 (goM W n R L).2.2.2.1 (goM W n R L).2.2.2.2 ∧
    Wk ((goM W n R L).2.1 + 1) (min K ((goM W n R L).2.1 + 7)) (goM W n R L).2.2.2.1 ∧ n + (goM W n R L).1.length = (goM W n R L).2.1 ∧ (goM W n R L).1 ++ (goM W n R L).2.2.2.1 = W ∧ (goM W n R L).2.2.2.2 = L ++ (goM W n R L).1.map fun w => (1, w.1, w.1, w.2, 0)
  | [], n, R, L, h => ⟨h, trivial, by simp [goM], rfl, by simp [goM]⟩
  | w :: r, n, R, L, h => by
    unfold goM
    by_cases c1 : w.1 = n
    · rw [if_pos c1]
      obtain ⟨h1, h2, h3, h4, h5⟩ := goM_ok r (n + 1) _ _ (h.tell c1)
      refine ⟨h1, h2, by simp only [List.length_cons]; omega, by simp only [List.cons_append, h4], ?_⟩
      simp only [h5, List.map_cons, List.append_assoc, List.cons_append, List.nil_append]
    · rw [if_neg c1]
      have := h.wk.1
      refine ⟨h, ⟨by simp only; omega, h.wk.2⟩, by simp, rfl, by simp⟩
theorem goM_eq (w : It) (r R : List It) (L : List Ev) : goM (w :: r) w.1 R L = (w :: (goM r (w.1 + 1) (addR R w) (L ++ [(1, w.1, w.1, w.2, 0)])).1, (goM r (w.1 + 1) (addR R w) (L ++ [(1, w.1, w.1, w.2, 0)])).2) := by
  conv => lhs; unfold goM
  rw [if_pos rfl]
theorem goM_ne {w : It} {n : Int} (h : w.1 ≠ n) (r R : List It) (L : List Ev) : goM (w :: r) n R L = ([], n, R, w :: r, L) := by
  conv => lhs; unfold goM
  rw [if_neg h]
/-- Such a feed as may be. -/
structure FI (K c : Int) (f : Fd) : Prop where
  n0 : 0 ≤ f.1
  tp : 0 ≤ f.2.1 ∧ f.2.1 ≤ K
  p : 1 ≤ f.1 → Fp K c f.1 f.2.2.1 f.2.2.2.1 f.2.2.2.2.1
  ask : 0 ≤ f.2.2.2.2.2.1 ∧ f.2.2.2.2.2.1 ≤ 3
  z : f.1 = 0 → f.2.2.1 = [] ∧ f.2.2.2.1 = [] ∧ f.2.2.2.2.1 = []
theorem FI.goes {K c : Int} {f : Fd} (h : FI K c f) (h1 : 1 ≤ f.1) : FI K c (goesM f).2 ∧ f.1 ≤ (goesM f).2.1 ∧ Wk ((goesM f).2.1 + 1) (min K ((goesM f).2.1 + 7)) (goesM f).2.2.2.2.1 := by
  obtain ⟨g1, g2, g3, g4, g5⟩ := goM_ok _ _ _ _ (h.p h1)
  unfold goesM
  refine ⟨⟨by simp only; omega, h.tp, fun _ => g1, ?_, fun q => by simp only at q; omega⟩, by simp only; omega, g2⟩
  try simp only
  split
  · exact h.ask
  · exact ⟨by simp, by simp⟩
theorem pCloneI (N : Nat) (l : List It) (hl : l.length ≤ 100000000) : W_slices_Clone_api_Item N l = some l := by
  unfold W_slices_Clone_api_Item V_slices_Clone_api_Item
  rw [cnd_T (by omega)]
theorem Take_nil (N : Nat) (n : Int) : W_win_Take N ([], n) = some ([], false, 0, []) := by
  unfold W_win_Take V_win_Take
  simp only [List.length_nil]
  rw [dT (by omega), cnd_t, pCloneI N [] (by simp), obind_s]
theorem Take_no (N : Nat) (w : It) (r : List It) (n : Int) (h : w.1 ≠ n) (hr : r.length ≤ 1000) : W_win_Take N (w :: r, n) = some (w :: r, false, 0, []) := by
  unfold W_win_Take V_win_Take
  simp only [List.length_cons]
  rw [dF (by omega), cnd_f, dT (by omega), dT (by omega), Bool.and_self, cnd_t]
  have e : (List.getD (w :: r) 0 ((0 : Int), ([] : List UInt8))) = w := rfl
  rw [e, dT h, cnd_t, pCloneI N (w :: r) (by simp only [List.length_cons]; omega), obind_s]
theorem Take_yes (N : Nat) (w : It) (r : List It) (hr : r.length ≤ 1000) : W_win_Take N (w :: r, w.1) = some (r, true, w.1, w.2) := by
  unfold W_win_Take V_win_Take
  simp only [List.length_cons]
  have e : (List.getD (w :: r) 0 ((0 : Int), ([] : List UInt8))) = w := rfl
  have e2 : List.drop 1 (List.take (r.length + 1) (w :: r)) = r := by simp
  rw [dF (by omega), cnd_f, dT (by omega), dT (by omega), Bool.and_self, cnd_t, e, dF (fun q => q rfl), cnd_f, dT (by omega), dT (by omega), Bool.and_self, cnd_t, e2, pCloneI N r (by omega), obind_s, cnd_t]
theorem wFirst_nil (N : Nat) : W_win_First N [] = some 0 := by
  unfold W_win_First V_win_First
  rw [dT (by simp), cnd_t]
theorem wFirst_cons (N : Nat) (w : It) (r : List It) : W_win_First N (w :: r) = some w.1 := by
  unfold W_win_First V_win_First
  simp only [List.length_cons]
  rw [dF (by omega), cnd_f, dT (by omega), dT (by omega), Bool.and_self, cnd_t]
  rfl
/-- Where an item has its place. -/
def insN (x : Int) : List It → Nat
  | [] => 0
  | w :: r => if x < w.1 then 0 else insN x r + 1
theorem insN_eq (x : It) : ∀ l, List.take (insN x.1 l) l ++ ([x] ++ List.drop (insN x.1 l) l) = insW x l
  | [] => rfl
  | w :: r => by
    simp only [insN, insW]
    by_cases q : x.1 < w.1
    · rw [if_pos q, if_pos q]; rfl
    · rw [if_neg q, if_neg q]
      simp only [List.take_succ_cons, List.drop_succ_cons, List.cons_append]
      rw [← insN_eq x r]; rfl
theorem insN_le (x : Int) : ∀ l, insN x l ≤ l.length
  | [] => by simp [insN]
  | w :: r => by
    simp only [insN, List.length_cons]
    have := insN_le x r
    split <;> omega
theorem Wk.drop : ∀ {l : List It} {n K : Int}, Wk n K l → ∀ k, Wk n K (l.drop k)
  | l, _, _, h, 0 => by simpa using h
  | [], _, _, _, k + 1 => by simp; trivial
  | w :: r, n, K, h, k + 1 => (h.2.2.drop k).mono (by have := h.1; omega) (Int.le_refl _)
theorem pPlace_eq (N : Nat) (hN : 2000 ≤ N) (l : List It) (s n K : Int) (hw : Wk n K l) (hl : l.length ≤ 1000) : W_win_place N (l, s) = some (if (getF l s).2 = true then .inr () else .inl (insN s l : Int)) := by
  unfold W_win_place V_win_place
  try simp only
  refine loop_G (N := N) (fun o => o = some (if (getF l s).2 = true then (.inr () : Int ⊕ PUnit) else .inl (insN s l : Int))) (fun k (v : Int) => v = k ∧ k ≤ l.length ∧ getF (l.drop k) s = getF l s ∧ insN s (l.drop k) + k = insN s l) l.length (fun r : PUnit ⊕ Int ⊕ PUnit => (r = .inl () ∧ (getF l s).2 = false ∧ insN s l = l.length) ∨ (r = .inr (if (getF l s).2 = true then (.inr () : Int ⊕ PUnit) else .inl (insN s l : Int)))) ⟨rfl, by omega, rfl, by simp⟩ (by omega) ?_ (fun k v h => h.2.1) ?_
  · rintro r (⟨rfl, h, h2⟩ | rfl)
    · rw [selim_l, h, if_neg (by simp), h2]
    · rw [selim_r]
  · rintro k v ⟨e, hk, hg, hi⟩
    subst e
    by_cases c : (k : Int) < l.length
    case neg =>
      right
      rw [dF c, cnd_f]
      rw [List.drop_eq_nil_of_le (by omega)] at hg hi
      exact ⟨_, rfl, .inl ⟨rfl, by rw [← hg]; rfl, by simp only [insN] at hi; omega⟩⟩
    have hwd := hw.drop k
    rw [drop_consI (by omega)] at hg hi hwd
    simp only [getF, insN] at hg hi
    rw [dT c, cnd_t, dT (by omega), Bool.and_self, cnd_t, Int.toNat_natCast]
    by_cases c2 : (l.getD k iD).1 = s
    · right
      rw [if_pos c2] at hg
      rw [dT c2, cnd_t]
      exact ⟨_, rfl, .inr (by rw [← hg]; rfl)⟩
    rw [if_neg c2] at hg
    rw [dF c2, cnd_f]
    by_cases c3 : s < (l.getD k iD).1
    · right
      rw [if_pos c3] at hi
      rw [dT c3, cnd_t]
      have := getF_none hwd.2.2 s (by omega)
      rw [this] at hg
      refine ⟨_, rfl, .inr ?_⟩
      rw [← hg, if_neg (by simp)]
      congr 2; omega
    · left
      rw [if_neg c3] at hi
      rw [dF c3, cnd_f, wr_m (by omega) (by omega)]
      exact ⟨_, rfl, by omega, by omega, hg, by omega⟩
theorem pPut_eq (N : Nat) (hN : 2000 ≤ N) (l : List It) (n m K : Int) (x : It) (hw : Wk m K l) (hl : l.length ≤ 1000) (hn : 0 ≤ n) (hn2 : n ≤ 10000001) : W_win_Put N (l, n, x) = some (putM l n x) := by
  unfold W_win_Put V_win_Put putM
  try simp only
  rw [pCloneI N l (by omega), obind_s, pPlace_eq N hN l x.1 m K hw hl, obind_s]
  by_cases c1 : (getF l x.1).2 = true
  · rw [if_pos c1, selim_r, cnd_t, if_pos (.inr (.inr c1))]
  rw [if_neg c1, selim_l]
  by_cases c2 : x.1 < n
  · rw [dT c2, cnd_t, if_pos (.inl c2)]
  rw [dF c2, cnd_f, wr_m (by omega) (by omega)]
  by_cases c3 : n + 8 ≤ x.1
  · rw [dT c3, cnd_t, if_pos (.inr (.inl (by omega)))]
  rw [dF c3, cnd_f, if_neg (by rintro (q | q | q) <;> first | omega | exact c1 q)]
  have h1 := insN_le x.1 l
  unfold W_slices_Insert_api_Item
  try simp only
  rw [dT (by omega), dT (by omega), dT (by rfl), dT (by omega)]
  simp only [Bool.and_self, cnd_t, obind_s, Int.toNat_natCast]
  rw [insN_eq]
theorem FI.put {K c : Int} {f : Fd} (h : FI K c f) (h1 : 1 ≤ f.1) (x : It) (hx : x.1 ≤ K) : FI K c (f.1, f.2.1, f.2.2.1, (putM f.2.2.2.1 f.1 x).1, f.2.2.2.2) := by
  have hp := h.p h1
  refine ⟨h.n0, h.tp, fun _ => ⟨hp.nx, hp.rk, hp.rl, ?_, hp.ch, hp.c0⟩, h.ask, fun q => by simp only at q; omega⟩
  try simp only
  unfold putM
  by_cases c1 : x.1 < f.1 ∨ 8 ≤ x.1 - f.1 ∨ (getF f.2.2.2.1 x.1).2 = true
  · rw [if_pos c1]; exact hp.wk
  · rw [if_neg c1]
    exact hp.wk.ins (by omega) (by omega) (by have : ¬ (getF f.2.2.2.1 x.1).2 = true := fun q => c1 (.inr (.inr q)); simpa using this)
/-- One of many deeds. -/
theorem FI.nx {K c : Int} {f : Fd} (h : FI K c f) (hK : 0 ≤ K) : 0 ≤ f.1 ∧ f.1 ≤ K + 1 := by
  refine ⟨h.n0, ?_⟩
  by_cases q : 1 ≤ f.1
  · exact (h.p q).nx.2
  · omega
/-- All items and events of a feed. -/
structure FA (P : It → Prop) (Q : Ev → Prop) (f : Fd) : Prop where
  w : ∀ x ∈ f.2.2.2.1, P x
  r : ∀ x ∈ f.2.2.1, P x
  l : ∀ e ∈ f.2.2.2.2.1, Q e
theorem addR_all {P : It → Prop} {R : List It} {w : It} (h : ∀ x ∈ R, P x) (hw : P w) : ∀ x ∈ addR R w, P x := by
  intro x hx
  have : x ∈ R ++ [w] := by
    unfold addR at hx
    split at hx
    · exact List.mem_of_mem_drop hx
    · exact hx
  rcases List.mem_append.1 this with h1 | h1
  · exact h x h1
  · rw [List.mem_singleton.1 h1]; exact hw
theorem goM_all {P : It → Prop} {Q : Ev → Prop} (hPQ : ∀ w : It, P w → Q (1, w.1, w.1, w.2, 0)) : ∀ (W : List It) (n : Int) (R : List It) (L : List Ev), (∀ x ∈ W, P x) → (∀ x ∈ R, P x) → (∀ e ∈ L, Q e) →
    (∀ x ∈ (goM W n R L).2.2.2.1, P x) ∧ (∀ x ∈ (goM W n R L).2.2.1, P x) ∧ (∀ e ∈ (goM W n R L).2.2.2.2, Q e)
  | [], n, R, L, h1, h2, h3 => ⟨h1, h2, h3⟩
  | w :: r, n, R, L, h1, h2, h3 => by
    have hw := h1 w (by simp)
    by_cases c : w.1 = n
    · subst c
      rw [goM_eq]
      exact goM_all hPQ r _ _ _ (fun x hx => h1 x (by simp [hx])) (addR_all h2 hw) (fun e he => by
        rcases List.mem_append.1 he with he | he
        · exact h3 e he
        · rw [List.mem_singleton.1 he]; exact hPQ w hw)
    · rw [goM_ne c]; exact ⟨h1, h2, h3⟩
theorem FA.goes {P : It → Prop} {Q : Ev → Prop} (hPQ : ∀ w : It, P w → Q (1, w.1, w.1, w.2, 0)) {f : Fd} (h : FA P Q f) : FA P Q (goesM f).2 := by
  obtain ⟨a, b, c⟩ := goM_all hPQ _ f.1 _ _ h.w h.r h.l
  exact ⟨a, b, c⟩
theorem insW_mem (x : It) : ∀ (l : List It) (w : It), w ∈ insW x l → w = x ∨ w ∈ l
  | [], w, h => by simp [insW] at h; exact .inl h
  | y :: r, w, h => by
    simp only [insW] at h
    split at h
    · rcases List.mem_cons.1 h with h | h
      · exact .inl h
      · exact .inr h
    · rcases List.mem_cons.1 h with h | h
      · exact .inr (by simp [h])
      · rcases insW_mem x r w h with h | h
        · exact .inl h
        · exact .inr (by simp [h])
theorem FA.put {P : It → Prop} {Q : Ev → Prop} {f : Fd} (h : FA P Q f) (x : It) (hx : P x) : FA P Q (f.1, f.2.1, f.2.2.1, (putM f.2.2.2.1 f.1 x).1, f.2.2.2.2) := by
  refine ⟨fun w hw => ?_, h.r, h.l⟩
  simp only at hw
  unfold putM at hw
  split at hw
  · exact h.w w hw
  · rcases insW_mem x _ w hw with rfl | hw
    · exact hx
    · exact h.w w hw
/-- A window that is ahead. -/
theorem Wk.at : ∀ {l : List It} {n K : Int}, Wk n K l → ∀ j, j + 1 < l.length → (l.getD j iD).1 < (l.getD (j + 1) iD).1
  | [], _, _, _, j, hj => by simp at hj
  | [w], _, _, _, j, hj => by simp at hj
  | w :: x :: r, n, K, h, 0, _ => by have := h.2.2.1; simp; omega
  | w :: x :: r, n, K, h, j + 1, hj => by
    have := h.2.2.at j (by simp at hj ⊢; omega)
    simpa using this
theorem getD_mem {l : List Int} {j : Nat} (h : j < l.length) : l.getD j 0 ∈ l := by
  rw [List.getD_eq_getElem?_getD, List.getElem?_eq_getElem h]; exact List.getElem_mem h
theorem bifI {α : Type} (a b : Int) (x y : α) : (bif a == b then x else y) = if a = b then x else y := by
  by_cases h : a = b
  · subst h; simp
  · rw [if_neg h, beq_false_of_ne h]; rfl
theorem mget_c {α : Type} (d : α) (k : Int) (p : Int × α) (r : List (Int × α)) : mget d k (p :: r) = if p.1 = k then p.2 else mget d k r := bifI _ _ _ _
theorem mput_c {α : Type} (k : Int) (x : α) (p : Int × α) (r : List (Int × α)) : mput k x (p :: r) = if p.1 = k then (k, x) :: r else p :: mput k x r := bifI _ _ _ _
theorem mget_mput {α : Type} (d : α) (k k' : Int) (x : α) : ∀ l : List (Int × α), mget d k (mput k' x l) = if k = k' then x else mget d k l
  | [] => by
    show mget d k [(k', x)] = _
    rw [mget_c]
    by_cases h : k = k'
    · rw [if_pos h, if_pos h.symm]
    · rw [if_neg (fun e => h (Eq.symm e)), if_neg h]
  | p :: r => by
    have ih := mget_mput d k k' x r
    rw [mput_c, mget_c d k p r]
    by_cases h1 : p.1 = k'
    · rw [if_pos h1, mget_c]
      by_cases h2 : k = k'
      · rw [if_pos h2, if_pos h2.symm]
      · rw [if_neg (fun e => h2 (Eq.symm e)), if_neg h2, if_neg (by omega)]
    · rw [if_neg h1, mget_c, ih]
      by_cases h4 : p.1 = k
      · rw [if_pos h4, if_neg (by omega), if_pos h4]
      · rw [if_neg h4, if_neg h4]
theorem getF_insW (x : It) : ∀ {l : List It} {n K : Int}, Wk n K l → (getF l x.1).2 = false → ∀ s, (getF (insW x l) s).2 = (decide (s = x.1) || (getF l s).2)
  | [], _, _, _, _, s => by
    simp only [insW, getF]
    by_cases h : x.1 = s
    · rw [if_pos h, dT h.symm]; rfl
    · rw [if_neg h, dF (fun e => h (Eq.symm e))]; rfl
  | w :: r, n, K, hw, hg, s => by
    simp only [getF] at hg
    by_cases c : w.1 = x.1
    · rw [if_pos c] at hg; cases hg
    rw [if_neg c] at hg
    have ih := getF_insW x hw.2.2 hg s
    simp only [insW]
    split
    · have e : getF (x :: w :: r) s = if x.1 = s then (x.2, true) else getF (w :: r) s := rfl
      rw [e]
      by_cases h : x.1 = s
      · rw [if_pos h, dT h.symm]; rfl
      · rw [if_neg h, dF (fun e => h (Eq.symm e))]; rfl
    · simp only [getF]
      by_cases h : w.1 = s
      · rw [if_pos h, if_pos h]; simp
      · rw [if_neg h, if_neg h, ih]
/-- The letter of a number, as the statement has it. -/
def Lt (n : Int) : UInt8 := UInt8.ofNat (97 + Int.tmod n 26).toNat
theorem Lt_b {n : Int} (h : 0 ≤ n) (h2 : n ≤ 1000000) : wr .u8 (wr .i64 (97 + Int.tmod n 26)) = 97 + Int.tmod n 26 ∧ 0 ≤ Int.tmod n 26 ∧ Int.tmod n 26 < 26 := by
  have t1 := Int.tmod_nonneg 26 h
  have t2 := Int.tmod_lt_of_pos n (show (0 : Int) < 26 by omega)
  refine ⟨?_, t1, t2⟩
  rw [wr_m (by omega) (by omega)]
  exact wr_u8 (by omega) (by omega)
theorem Lt_num {n : Int} (h : 0 ≤ n) : ((Lt n).toNat : Int) = 97 + Int.tmod n 26 := by
  have t1 := Int.tmod_nonneg 26 h
  have t2 := Int.tmod_lt_of_pos n (show (0 : Int) < 26 by omega)
  unfold Lt
  rw [UInt8.toNat_ofNat']
  have : (97 + Int.tmod n 26).toNat % 2 ^ 8 = (97 + Int.tmod n 26).toNat := Nat.mod_eq_of_lt (by omega)
  rw [this]; omega
/-- What has been taken. -/
def GotOk (next : Int) (g : List UInt8) : Prop := (g.length : Int) = next - 5 ∧ ∀ j : Nat, j < g.length → g.getD j 0 = Lt (5 + j)
theorem GotOk.snoc {next : Int} {g : List UInt8} (h : GotOk next g) : GotOk (next + 1) (g ++ [Lt next]) := by
  refine ⟨by simp [h.1]; omega, fun j hj => ?_⟩
  have hl := h.1
  rw [List.getD_eq_getElem?_getD, List.getElem?_append]
  by_cases c : j < g.length
  · rw [if_pos c, ← List.getD_eq_getElem?_getD]; exact h.2 j c
  · simp at hj
    have e : j = g.length := by omega
    subst e
    rw [if_neg c]
    simp
    congr 1
    omega
abbrev Cm := List (Int × Bool)
/-- The row, and what came. -/
structure WO (next K : Int) (x : List It) (g : List UInt8) (m : Cm) (i : Nat) : Prop where
  w : Wk next K x
  c : ∀ n, next ≤ n → mget false n m = (getF x n).2
  t : ∀ e ∈ x, e.2 = [Lt e.1]
  g : GotOk next g
  b : next - 5 + x.length ≤ i
  k : K ≤ next + 7
def QW (L i : Nat) (o : Option ((List It × Int × List UInt8 × Int × Cm) ⊕ (Int × List UInt8 ⊕ Bool))) : Prop := ∃ y, o = some (.inl y) ∧
  (y.2.2.2.1 = ((i + 1 : Nat) : Int) ∧ i + 1 ≤ L ∧ WO y.2.1 (y.2.1 + 7) y.1 y.2.2.1 y.2.2.2.2 (i + 1) ∧ 5 ≤ y.2.1 ∧ ∀ w ∈ y.1, w.1 ≠ y.2.1)
theorem law_aux (N : Nat) (hN : 2000 ≤ N) (hbeg : W_law15_begun N () = some true) (l : List Int) (hl : ∀ w ∈ l, 0 ≤ w ∧ w ≤ 255) : W_law15_WinOrder N l = some true := by
  unfold W_law15_WinOrder V_law15_WinOrder
  rw [hbeg, obind_s, Bool.not_true, cnd_f]
  by_cases c1 : (40 : Int) < l.length
  · rw [cnd_T c1]
  rw [cnd_F c1]
  have inner : ∀ (x : List It) (next K : Int) (g : List UInt8) (m : Cm) (i : Nat) (k : (List It × Int × List UInt8 × Cm ⊕ Bool) → Option ((List It × Int × List UInt8 × Int × Cm) ⊕ (Int × List UInt8 ⊕ Bool))) (Q : Option ((List It × Int × List UInt8 × Int × Cm) ⊕ (Int × List UInt8 ⊕ Bool)) → Prop), WO next K x g m i → i ≤ 40 → 5 ≤ next →
      (∀ (x' : List It) (next' : Int) (g' : List UInt8), WO next' K x' g' m i → 5 ≤ next' → (∀ w ∈ x', w.1 ≠ next') → Q (k (.inl (x', next', g', m)))) →
      Q (obind (loopN N (fun (v : List It × Int × List UInt8 × Cm) => obind (W_win_Take N (v.1, v.2.1)) fun b => cnd (!b.2.1 == mget false v.2.1 v.2.2.2) (some
  (Sum.inr (Sum.inr false))) (cnd b.2.1 (cnd (decide (b.2.2.1 ≠ v.2.1)) (some (Sum.inr (Sum.inr false))) (cnd (decide ((↑(List.length b.1) : Int) ≠ wr
  .i64 ((↑(List.length v.1) : Int) - (1:Int)))) (some (Sum.inr (Sum.inr false))) (cnd (!b.2.1) (some (Sum.inr (Sum.inl v))) (cnd (decide (List.length
  v.2.2.1 + List.length b.2.2.2 ≤ (9223372036854775807:Nat))) (some (Sum.inl (b.1, wr .i64 (v.2.1 + (1:Int)), v.2.2.1 ++ b.2.2.2, v.2.2.2))) none))))
  (cnd (!b.2.1) (some (Sum.inr (Sum.inl v))) (cnd (decide (List.length v.2.2.1 + List.length b.2.2.2 ≤ (9223372036854775807:Nat))) (some (Sum.inl
  (b.1, wr .i64 (v.2.1 + (1:Int)), v.2.2.1 ++ b.2.2.2, v.2.2.2))) none)))) (x, next, g, m)) k) := by
    intro x next K g m i k Q h hi h5 hk
    have hxl : x.length ≤ 1000 := by have := h.b; omega
    refine loop_G (σ := List It × Int × List UInt8 × Cm) (ρ := List It × Int × List UInt8 × Cm ⊕ Bool) Q (fun j v => WO v.2.1 K v.1 v.2.2.1 m i ∧ v.2.2.2 = m ∧ 5 ≤ v.2.1 ∧ v.1.length + j = x.length) x.length (fun r => ∃ x' next' g', r = .inl (x', next', g', m) ∧ WO next' K x' g' m i ∧ 5 ≤ next' ∧ ∀ w ∈ x', w.1 ≠ next') ⟨h, rfl, h5, by simp⟩ (by omega) ?_ (fun j v q => by have := q.2.2.2; omega) ?_
    · rintro r ⟨x', next', g', rfl, q1, q2, q3⟩
      exact hk x' next' g' q1 q2 q3
    · rintro j ⟨y, nx, gt, M⟩ ⟨q1, q2, q3, q4⟩
      simp only at q1 q2 q3 q4 ⊢
      subst q2
      have hc := q1.c nx (Int.le_refl _)
      cases y with
      | nil =>
        right
        rw [Take_nil, obind_s]
        simp only [getF] at hc
        simp only [hc, beq_self_eq_true, Bool.not_true, cnd_f, Bool.not_false, cnd_t]
        exact ⟨_, rfl, [], nx, gt, rfl, q1, q3, fun w hw => absurd hw (by simp)⟩
      | cons w r =>
        have hr : r.length ≤ 1000 := by simp only [List.length_cons] at q4; omega
        by_cases e : w.1 = nx
        · left
          subst e
          have ht := q1.t w (by simp)
          rw [Take_yes N w r hr, obind_s]
          simp only [getF, if_true] at hc
          have hgl := q1.g.1
          have hb := q1.b
          simp only [List.length_cons] at hb
          simp only [hc, beq_self_eq_true, Bool.not_true, cnd_f, cnd_t]
          rw [cnd_F (by simp), cnd_F (by rw [wr_m (by simp only [List.length_cons]; omega) (by simp only [List.length_cons]; omega)]; simp only [List.length_cons]; omega), ht, cnd_T (by simp only [List.length_cons, List.length_nil]; omega), wr_m (z := w.1 + 1) (by omega) (by omega)]
          refine ⟨_, rfl, ⟨q1.w.2.2, fun n hn => ?_, fun e he => q1.t e (by simp [he]), q1.g.snoc, by simp only; omega, by have := q1.k; simp only; omega⟩, rfl, by simp only; omega, by simp only [List.length_cons] at q4; simp only; omega⟩
          simp only at hn
          rw [q1.c n (by omega)]
          simp only [getF]
          rw [if_neg (by omega)]
        · right
          rw [Take_no N w r nx e hr, obind_s]
          have hn : (getF (w :: r) nx).2 = false := by
            simp only [getF, if_neg e]
            rw [getF_none q1.w.2.2 nx (by have := q1.w.1; omega)]
          rw [hn] at hc
          simp only [hc, beq_self_eq_true, Bool.not_true, cnd_f, Bool.not_false, cnd_t]
          refine ⟨_, rfl, w :: r, nx, gt, rfl, q1, q3, fun u hu => ?_⟩
          rcases List.mem_cons.1 hu with rfl | hu
          · exact e
          · have := q1.w.2.2.mem u hu; have := q1.w.1; omega
  refine loop_G (σ := List It × Int × List UInt8 × Int × Cm) (ρ := Int × List UInt8 ⊕ Bool) (β := Bool) (· = some true) (fun i v => v.2.2.2.1 = i ∧ i ≤ l.length ∧ WO v.2.1 (v.2.1 + 7) v.1 v.2.2.1 v.2.2.2.2 i ∧ 5 ≤ v.2.1 ∧ ∀ w ∈ v.1, w.1 ≠ v.2.1) l.length
    (fun r => ∃ next g, r = .inl (next, g) ∧ GotOk next g ∧ 5 ≤ next ∧ next ≤ 45) ⟨rfl, Nat.zero_le _, ⟨trivial, fun n _ => rfl, fun e he => absurd he (by simp), ⟨rfl, fun j hj => absurd hj (by simp)⟩, by simp, Int.le_refl _⟩, Int.le_refl _, fun w hw => absurd hw (by simp)⟩ (by omega) ?_ (fun k v h => h.2.1) ?_
  · rintro r ⟨next, g, rfl, hg, h5, h45⟩
    simp only [selim]
    have hgl := hg.1
    refine loop_G (σ := Int) (ρ := PUnit ⊕ Bool) (β := Bool) (· = some true) (fun i v => v = i ∧ i ≤ g.length) g.length (fun r => r = .inl ()) ⟨rfl, by omega⟩ (by omega) ?_ (fun k v h => h.2) ?_
    · rintro r rfl
      simp only [selim]
      rw [wr_m (z := next - 5) (by omega) (by omega), dT hgl]
    · rintro i v ⟨rfl, hi⟩
      by_cases hc : i < g.length
      · left
        have e : (decide ((0 : Int) ≤ (i : Int)) && decide ((i : Int) < (g.length : Int))) = true := by rw [dT (show (0 : Int) ≤ (i : Int) by omega), dT (show (i : Int) < (g.length : Int) by omega)]; rfl
        rw [cnd_T (show (i : Int) < (g.length : Int) by omega), e, cnd_t, Int.toNat_natCast, hg.2 i hc, wr_m (z := 5 + (i : Int)) (by omega) (by omega), (Lt_b (n := 5 + (i : Int)) (by omega) (by omega)).1, Lt_num (by omega), cnd_F (by simp), wr_m (z := (i : Int) + 1) (by omega) (by omega)]
        exact ⟨_, rfl, rfl, by omega⟩
      · right
        rw [cnd_F (show ¬ (i : Int) < (g.length : Int) by omega)]
        exact ⟨_, rfl, rfl⟩
  · rintro i ⟨x, next, g, q, m⟩ ⟨hq, hi, hw, h5, hne⟩
    simp only at hq hi hw h5 hne ⊢
    subst hq
    have hb := hw.b
    by_cases hc : i < l.length
    · have e : (decide ((0 : Int) ≤ (i : Int)) && decide ((i : Int) < (l.length : Int))) = true := by rw [dT (show (0 : Int) ≤ (i : Int) by omega), dT (show (i : Int) < (l.length : Int) by omega)]; rfl
      rw [cnd_T (show (i : Int) < (l.length : Int) by omega), e, cnd_t, Int.toNat_natCast]
      have hu := hl _ (getD_mem hc)
      generalize l.getD i 0 = u at hu ⊢
      have t1 := Int.tmod_nonneg 12 hu.1
      have t2 := Int.tmod_lt_of_pos u (show (0 : Int) < 12 by omega)
      rw [wr_m (z := next - 2) (by omega) (by omega), wr_m (z := Int.tmod u 12) (by omega) (by omega), wr_m (z := next - 2 + Int.tmod u 12) (by omega) (by omega)]
      obtain ⟨n, hn⟩ : ∃ n : Int, n = next - 2 + Int.tmod u 12 := ⟨_, rfl⟩
      rw [← hn]
      have n1 : 3 ≤ n := by omega
      have n2 : n ≤ 100 := by omega
      obtain ⟨l1, l2, l3⟩ := Lt_b (n := n) (by omega) (by omega)
      rw [l1]
      have hall : List.all [97 + Int.tmod n 26] (fun (n : Int) => decide ((0:Int) ≤ n) && decide (n < (256:Int))) = true := by
        simp only [List.all_cons, List.all_nil, Bool.and_true, Bool.and_eq_true, decide_eq_true_eq]; omega
      have hby : bytesI [97 + Int.tmod n 26] = [Lt n] := rfl
      rw [hall, cnd_t, hby, pPut_eq N hN x next next (next + 7) (n, [Lt n]) hw.w (by omega) (by omega) (by omega), obind_s, wr_m (z := next + 8) (by omega) (by omega), wr_m (z := (i : Int) + 1) (by omega) (by omega)]
      -- behind the inner loop
      have tail : ∀ (x' : List It) (next' : Int) (g' : List UInt8) (m' : Cm), WO next' (next + 7) x' g' m' (i + 1) → 5 ≤ next' → (∀ w ∈ x', w.1 ≠ next') →
          (∃ y, (obind (W_win_First N x') fun b_3 => cnd (decide (b_3 ≠ (0:Int))) (obind (W_win_First N x') fun b_4 => cnd (decide (b_4 ≤ next')) (some (Sum.inr (Sum.inr false))) (some
  (Sum.inl (x', next', g', (i : Int) + 1, m')))) (some (Sum.inl (x', next', g', (i : Int) + 1, m'))) : Option ((List It × Int × List UInt8 × Int × Cm) ⊕ (Int × List UInt8 ⊕ Bool))) = some (.inl y) ∧
            (y.2.2.2.1 = ((i + 1 : Nat) : Int) ∧ i + 1 ≤ l.length ∧ WO y.2.1 (y.2.1 + 7) y.1 y.2.2.1 y.2.2.2.2 (i + 1) ∧ 5 ≤ y.2.1 ∧ ∀ w ∈ y.1, w.1 ≠ y.2.1)) := by
        intro x' next' g' m' h1 h2 h3
        have hk := h1.k
        have hwo : WO next' (next' + 7) x' g' m' (i + 1) := ⟨h1.w.mono (Int.le_refl _) hk, h1.c, h1.t, h1.g, h1.b, Int.le_refl _⟩
        cases x' with
        | nil =>
          rw [wFirst_nil, obind_s, cnd_F (by simp)]
          exact ⟨_, rfl, by simp only; omega, by omega, hwo, h2, h3⟩
        | cons w r =>
          have := h3 w (by simp)
          have := h1.w.1
          rw [wFirst_cons, obind_s, cnd_T (by omega), obind_s, cnd_F (by omega)]
          exact ⟨_, rfl, by simp only; omega, by omega, hwo, h2, h3⟩
      have noput : ∀ m' : Cm, (∀ k, next ≤ k → mget false k m' = (getF x k).2) → WO next (next + 7) x g m' (i + 1) := fun m' hm' => ⟨hw.w, hm', hw.t, hw.g, by omega, Int.le_refl _⟩
      left
      by_cases c2 : next ≤ n
      · rw [cnd_T c2, obind_s]
        try simp only
        by_cases c3 : n < next + 8
        · rw [dT c3, cnd_t]
          have hcn := hw.c n c2
          by_cases c4 : (getF x n).2 = true
          · have hp : putM x next (n, [Lt n]) = (x, false) := by unfold putM; rw [if_pos (.inr (.inr c4))]
            rw [hp, hcn, c4]
            simp only [Bool.not_true, beq_self_eq_true, cnd_f, obind_s]
            exact inner x next (next + 7) g m (i + 1) _ (QW l.length i) (noput m hw.c) (by omega) h5 fun x' next' g' q1 q2 q3 => tail x' next' g' m q1 q2 q3
          · have c4' : (getF x n).2 = false := by simpa using c4
            have hp : putM x next (n, [Lt n]) = (insW (n, [Lt n]) x, true) := by 
              unfold putM
              rw [if_neg]
              rintro (q | q | q)
              · simp only at q; omega
              · simp only at q; omega
              · exact c4 q
            rw [hp, hcn, c4']
            simp only [Bool.not_false, beq_self_eq_true, Bool.not_true, cnd_f, cnd_t, obind_s]
            refine inner _ next (next + 7) g _ (i + 1) _ (QW l.length i) ⟨hw.w.ins c2 (by simp only; omega) c4', fun k hk => ?_, fun e he => ?_, hw.g, by rw [insW_len]; omega, Int.le_refl _⟩ (by omega) h5 fun x' next' g' q1 q2 q3 => tail x' next' g' _ q1 q2 q3
            · rw [mget_mput, getF_insW _ hw.w c4', hw.c k hk]
              by_cases q : k = n
              · rw [if_pos q, dT q]; rfl
              · rw [if_neg q, dF q]; rfl
            · rcases insW_mem _ _ _ he with rfl | he
              · rfl
              · exact hw.t e he
        · rw [dF c3, cnd_f]
          have hp : putM x next (n, [Lt n]) = (x, false) := by unfold putM; rw [if_pos (.inr (.inl (by simp only; omega)))]
          rw [hp]
          simp only [beq_self_eq_true, Bool.not_true, cnd_f, obind_s]
          exact inner x next (next + 7) g m (i + 1) _ (QW l.length i) (noput m hw.c) (by omega) h5 fun x' next' g' q1 q2 q3 => tail x' next' g' m q1 q2 q3
      · rw [cnd_F c2, obind_s]
        try simp only
        rw [cnd_f]
        have hp : putM x next (n, [Lt n]) = (x, false) := by unfold putM; rw [if_pos (.inl (by simp only; omega))]
        rw [hp]
        simp only [beq_self_eq_true, Bool.not_true, cnd_f, obind_s]
        exact inner x next (next + 7) g m (i + 1) _ (QW l.length i) (noput m hw.c) (by omega) h5 fun x' next' g' q1 q2 q3 => tail x' next' g' m q1 q2 q3
    · right
      rw [cnd_F (show ¬ (i : Int) < (l.length : Int) by omega)]
      exact ⟨_, rfl, next, g, rfl, hw.g, h5, by omega⟩
def NN : Nat := 2000
theorem begun_ok : W_law15_begun NN () = some true := by decide +kernel
theorem law_true (y0 : List Int) (h0 : Twf (.list (.int .u8)) y0) : W_law15_WinOrder NN y0 = some true :=
  law_aux NN (Nat.le_refl _) begun_ok y0 (fun w hw => h0.2 w hw)

theorem spec (y0 : List Int) (h0 : Twf (.list (.int .u8)) y0) : Spec2 P0 4 [valW (.list (.int .u8)) y0] [] (.bs true) [] [] := (con_law15_WinOrder_ok NN).2 y0 true (law_true y0 h0)
theorem lifted (os : Os) (started : os.Started) (H : Type) (enc : TypeId × Value → H) :
    ReturnsInHanded {} Try.checked os 4 .any (Rows.winOrderSpec.pre6 enc Try.prog Try.f4 Rows.winOrderRow.domain false) (Rows.winOrderSpec.post enc Try.prog Try.f4 false true false false) := by
  refine returnsInHanded_of_change (C := Try.checked) own started (by kernel_rfl) Try.func4
    (ChangeSpec.witness6 (enc := enc) (C := Try.checked) false ⟨#[], #[.slice none 0 0], []⟩ 8 (by kernel_rfl) (by kernel_rfl) (by kernel_rfl) (by kernel_rfl)) ?_
  intro W base args ds gs before hval0 hW hcnd _
  have hval : ∀ (j : Nat) t v, Try.f4.params[j]? = some t → args[j]? = some v → Value.okWide Try.prog W .any base t v := hval0
  have hW' := hW
  obtain ⟨p, q, hA0, hV, rfl, hfz, hnd⟩ := hW
  have hA : DataW.TrodAll enc Try.prog W 0 (fun _ => true) true Try.f4.params.toList args.toList ds p := hA0
  rw [Try.params4] at hA hval
  obtain ⟨v0, vs0, d0, ds0, p0, q0, hargs, rfl, rfl, h0, r0⟩ := trodAll_cons hA
  obtain ⟨rfl, rfl, rfl⟩ := trodAll_nil r0
  obtain rfl : args = #[v0] := by cases args; simp_all
  obtain ⟨rfl, rfl⟩ := trodVars_none hV
  have k0 := h0
  have lt0 : ∀ x ∈ p0, x.block < W.heap.size := by obtain ⟨m, hm⟩ := k0; exact DataW.trod_lt m _ _ _ hm
  obtain ⟨y0, rp0, wf0⟩ := arg_ok (n := 12) (ty := (.list (.int .u8))) (by kernel_rfl) (hval 0 _ v0 rfl rfl) h0
  clear hA0 hval0
  refine (law_of2 (spec y0 wf0) W #[v0] (.cons rp0 .nil)).mono fun e W' ⟨he, bel⟩ => ?_
  subst he
  exact ⟨_, rfl, _, _, _, [], _, [], hW', trodAll_mk1 (shut_bool Try.underlying4 _), (trodAll_cons_mk (Below.trod laidOut (by kernel_rfl) (of_decide_eq_true (by kernel_rfl)) k0 bel lt0) trodAll_mk0), rfl, bel.frame _, fun h => by cases h⟩

theorem over : Rows.winOrderRow.holds Try.pinned (OpenSpec.ofChange Rows.winOrderSpec) :=
  OpenClaim.holds_of_wide 4 Try.f4 rfl rfl rfl rfl rfl rfl rfl ⟨rfl, rfl, rfl, rfl, rfl⟩ rfl rfl rfl rfl rfl (by kernel_rfl) Try.func4 (by kernel_rfl)
    (of_decide_eq_true (by kernel_rfl)) (by unfold Func.isWrapper; first | (rw [if_pos (by decide +kernel)]; kernel_rfl) | (rw [if_neg (by decide +kernel)]; exact ⟨rfl, rfl⟩))
    (fun os started H enc _ => lifted os started H enc)

theorem holds : Rows.WinOrderSaid := over
end Go.Proofs.Ytcpbafjaalofbaa.winOrderX
