/- KidsHeard: for all arguments the call returns true. The law is brought to a function of Lean's own (W_..) by the machine of the texts beside it, and that is reckoned; no condition. -/
import Derived.Test.YtcpbafjaalofbaaExtIn
import Derived.Test.YtcpbafjaalofbaaExtCm
import Derived.Test.YtcpbafjaalofbaaRows
import Derived.WalkKit
import Derived.ProofKit
import Derived.OpenShut
import Derived.ShutString
import Derived.ChangeOld
import Derived.Below
import Derived.Shelf.RegionOpenPlain
import Derived.Deep.RegionLaw
import Derived.Lib.Walk
namespace Go.Proofs.Ytcpbafjaalofbaa.kidsHeardX
open Go.Abs Go.RowKit Go.ChangeShapes Go.WideShapes Go.ChangeAt
set_option maxRecDepth 100000
set_option linter.unusedVariables false
set_option linter.unusedSimpArgs false
noncomputable abbrev P0 : Program := Try.prog
noncomputable def bodyOf (fn : Func) : Code := fn.body.getD .skip
def L0 : Lend := fun f => aget [] [(34, [0]), (36, [0]), (40, [0]), (84, [0])] f
def kpL (l : List Bool) : Nat → Bool := fun j => l.getD j true
theorem own : ownKnob Try.prog.godebug = none := by kernel_rfl
theorem laidOut : laidOutB Try.prog = true := by kernel_rfl
theorem mixed : P0.follows .mixedOrders = true := by decide +kernel
theorem progOk_ : progOk P0 = true := by decide +kernel
set_option linter.unusedSimpArgs false
set_option linter.unusedVariables false

theorem iqU34 : Try.prog.underlying 24 = some (.slice 28) := by kernel_rfl
theorem iqI34 : Try.prog.underlying 3 = some (.int .i64) := by kernel_rfl
theorem iqE34 : ∃ (inf : TypeInfo) (z : Value), Try.prog.info? 28 = some inf ∧ inf.size = 3 ∧ inf.zero = some z ∧ z.cells.size = 3 ∧ inf.bytes = 24 := insE_of (by kernel_rfl)
set_option maxHeartbeats 4000000 in
theorem iqShift34 {inf : TypeInfo} (hinf : Try.prog.info? 28 = some inf) (hsz : inf.size = 3) (w : World) (b i n c vb vo vc : Nat) (arr : Array Value) (tb : Nat) (fz : Nat × Nat) (cs vs : List Value) (hmem : w.heap[b]? = some (.cells arr tb fz)) (hf : ∀ j, j < arr.size → ¬ (fz.1 ≤ j ∧ j < fz.2))
    (hi : i < n) (hroom : n + 1 ≤ c) (hsize : arr.size = c * 3) (hby : (n + 1) * 24 ≤ 140737488355328) (hbn : vb ≠ b)
    (hcs : cs = (arr.toList.take (n * 3)).drop (i * 3)) (hvl : vs.length = 3) (hvs : ∀ (j : Nat) (u : Value), vs[j]? = some u → w.cell? ⟨vb, vo + j, none⟩ = some u) (h1c : ∀ u ∈ cs, u.oneCell' = true) (h1v : ∀ u ∈ vs, u.oneCell' = true)
    (hov : ∀ y, (callFunc 62 #[.slice (some ⟨vb, vo, none⟩) 1 vc, .slice (some ⟨b, (i + 1) * 3, none⟩) (n - i) y]).run Try.prog w = .ok (.value (.bool false)) w) (A1 A2 : Array Value)
    (hA1 : A1 = (arr.toList.take ((i + 1) * 3) ++ (cs ++ arr.toList.drop ((i + 1) * 3 + cs.length))).toArray) (hA2 : A2 = (A1.toList.take (i * 3) ++ (vs ++ A1.toList.drop (i * 3 + vs.length))).toArray) :
    Calls Try.prog 34 #[.slice (some ⟨b, 0, none⟩) n c, .int .i64 (i : Nat), .slice (some ⟨vb, vo, none⟩) 1 vc] w fun e w' => e = .returned (.slice (some ⟨b, 0, none⟩) (n + 1) c) ∧ w' = (w.drew.setRow b A1).setRow b A2 := by
  have mixed := mixed
  have hz2 : ¬ ((i : Int) = (n : Int)) := by omega
  have hw1 : IntKind.i64.wrap ((i : Int) + (1 : Int)) = (i : Int) + (1 : Int) := by rw [IntKind.wrap_i64]; omega
  have hw2 : IntKind.i64.wrap ((n : Int) + (1 : Int)) = (n : Int) + (1 : Int) := by rw [IntKind.wrap_i64]; omega
  have hcl : cs.length = (n - i) * 3 := by rw [hcs]; simp; omega
  have hA1s : A1.size = arr.size := by rw [hA1]; simp [hcl]; omega
  have hcp1 : ∀ ty dc sc, (Builtin.copy_ #[24, 24] ty #[.slice (some ⟨b, (i + 1) * 3, none⟩) (n - i) dc, .slice (some ⟨b, i * 3, none⟩) (n + 1 - i) sc]).run Try.prog w.drew = .ok (.int .i64 ((n - i : Nat) : Int)) (w.drew.setRow b A1) := fun ty dc sc => by
    rw [hA1]
    refine run_copyR iqU34 hinf w.drew (fz := fz) hmem hf _ _ _ (m := n + 1 - i) (k := n - i) (by omega) (lenOf_slice _ _ _ _) (run_firstCells_some w.drew _ _ _ _ _ _ (by rw [hsz]; exact hcl) (fun j v hj => ?_)) (by omega) h1c
    rw [hcs, List.getElem?_drop, List.getElem?_take] at hj
    split at hj
    · have : (⟨b, i * 3, none⟩ : Addr).add j = ⟨b, i * 3 + j, none⟩ := by unfold Addr.add; split <;> simp_all
      rw [this]
      have e : w.drew.cell? ⟨b, i * 3 + j, none⟩ = arr[i * 3 + j]? := by simp [World.cell?, show w.drew.heap = w.heap from rfl, hmem]
      rw [e]; simpa using hj
    · cases hj
  have hcp2 : ∀ (W : World), W.heap = (w.drew.setRow b A1).heap → ∀ ty dc, (Builtin.copy_ #[24, 24] ty #[.slice (some ⟨b, i * 3, none⟩) (n + 1 - i) dc, .slice (some ⟨vb, vo, none⟩) 1 vc]).run Try.prog W = .ok (.int .i64 ((1 : Nat) : Int)) (W.setRow b A2) := fun W hW ty dc => by
    rw [hA2]
    have hm1 : W.heap[b]? = some (.cells A1 tb fz) := by rw [hW]; exact setRow_heap w.drew b arr A1 tb fz hmem
    refine run_copyR iqU34 hinf W (fz := fz) hm1 (by rw [hA1s]; exact hf) _ _ _ (m := 1) (k := 1) (by omega) (lenOf_slice _ _ _ _) (run_firstCells_some W _ _ _ _ _ _ (by rw [hsz]; exact hvl) (fun j v hj => ?_)) (by omega) h1v
    have : (⟨vb, vo, none⟩ : Addr).add j = ⟨vb, vo + j, none⟩ := by unfold Addr.add; split <;> simp_all
    rw [this]
    have e : W.cell? ⟨vb, vo + j, none⟩ = w.cell? ⟨vb, vo + j, none⟩ := cell_congr (by rw [hW]; exact setRow_other w.drew b vb A1 hbn)
    rw [e]; exact hvs j v hj
  have hb1 : (0 : Int) ≤ (i : Int) + 1 := by omega
  have hin : i ≤ n := by omega
  have hb2 : ¬ (c = i + 1) := by omega
  have hb4 : ¬ (c = i) := by omega
  have hb3 : (i : Int) ≤ (n : Int) + 1 := by omega
  clear hcs hA1 hA2
  go_enter Try.func34, Try.ntmps34
  go_wp2_with (simp only [hov])
  go_region_law_o (refine step_copy_runR rfl _ _ 24 24 rfl _ _ (by simp [Act.eval, Act.put]) (by simp [Act.eval, Act.put]) (hcp1 _ _ _) ?_)
  go_wp2_with (at_builtin; refine wpList_copy_runR _ rfl _ _ 24 24 rfl _ _ rfl rfl (hcp2 _ rfl _ _) ?_)
  go_ret
  exact ⟨rfl, rfl⟩
set_option maxHeartbeats 4000000 in
theorem iqGrow34 {inf : TypeInfo} {z : Value} (hinf : Try.prog.info? 28 = some inf) (hsz : inf.size = 3) (hzz : inf.zero = some z) (hzs : z.cells.size = 3) (hbb : inf.bytes = 24) (w : World) (b i n c vb vo vc : Nat) (arr : Array Value) (tb : Nat) (fz : Nat × Nat) (cs vs : List Value) (hmem : w.heap[b]? = some (.cells arr tb fz))
    (hi : i < n) (hnc : n ≤ c) (hroom : ¬ (n + 1 ≤ c)) (hsize : arr.size = c * 3) (hby : (n + 1) * 24 ≤ 140737488355328) (va : Array Value) (tv : Nat) (fv : Nat × Nat) (hmemv : w.heap[vb]? = some (.cells va tv fv))
    (hcs : cs = (arr.toList.take (n * 3)).drop (i * 3)) (hvl : vs.length = 3) (hvs : ∀ (j : Nat) (u : Value), vs[j]? = some u → va[vo + j]? = some u) (h1c : ∀ u ∈ cs, u.oneCell' = true) (h1v : ∀ u ∈ vs, u.oneCell' = true)
    (G : Nat) (hG : G = grownCap w (n + 1) c 28) (ROW A1 A2 : Array Value)
    (hROW : ROW = (arr.toList.take (i * 3)).toArray ++ Builtin.zeroCells z.cells (n + 1 - i) ++ Builtin.zeroCells z.cells (G - (n + 1)))
    (hA1 : A1 = (ROW.toList.take (i * 3) ++ (vs ++ ROW.toList.drop (i * 3 + vs.length))).toArray) (hA2 : A2 = (A1.toList.take ((i + 1) * 3) ++ (cs ++ A1.toList.drop ((i + 1) * 3 + cs.length))).toArray) :
    Calls Try.prog 34 #[.slice (some ⟨b, 0, none⟩) n c, .int .i64 (i : Nat), .slice (some ⟨vb, vo, none⟩) 1 vc] w fun e w' => e = .returned (.slice (some ⟨w.heap.size, 0, none⟩) (n + 1) G) ∧ w' = (((w.drew.alloc (.cells ROW 28)).setRow w.heap.size A1).drew).setRow w.heap.size A2 := by
  have mixed := mixed
  have hz2 : ¬ ((i : Int) = (n : Int)) := by omega
  have hw1 : IntKind.i64.wrap ((i : Int) + (1 : Int)) = (i : Int) + (1 : Int) := by rw [IntKind.wrap_i64]; omega
  have hw2 : IntKind.i64.wrap ((n : Int) + (1 : Int)) = (n : Int) + (1 : Int) := by rw [IntKind.wrap_i64]; omega
  have hw3 : IntKind.i64.wrap ((n : Int) + (1 : Int) - (i : Int)) = (n : Int) + (1 : Int) - (i : Int) := by rw [IntKind.wrap_i64]; omega
  have hcl : cs.length = (n - i) * 3 := by rw [hcs]; simp; omega
  have hGn : n + 1 ≤ G := by rw [hG]; exact grownCap_ge w _ _ _
  have hbw : b < w.heap.size := (Array.getElem?_eq_some_iff.1 hmem).1
  have hvw : vb < w.heap.size := (Array.getElem?_eq_some_iff.1 hmemv).1
  have hzc : ∀ k, (Builtin.zeroCells z.cells k).size = k * 3 := fun k => by rw [size_zeroCells, hzs]
  have hRs : ROW.size = G * 3 := by
    rw [hROW]; simp only [Array.size_append, hzc, List.size_toArray, List.length_take, Array.length_toList]; omega
  have hA1s : A1.size = ROW.size := by rw [hA1]; simp [hvl]; omega
  have hold : (Builtin.firstCells inf.size i (.slice (some ⟨b, 0, none⟩) i c)).run Try.prog w.drew = .ok (arr.toList.take (i * 3)).toArray w.drew := by
    rw [hsz]
    refine run_firstCells_some w.drew 3 i ⟨b, 0, none⟩ i c (arr.toList.take (i * 3)) (by rw [List.length_take]; simp; omega) (fun j v hj => ?_)
    rw [List.getElem?_take] at hj
    split at hj
    · have : (⟨b, 0, none⟩ : Addr).add j = ⟨b, j, none⟩ := by unfold Addr.add; split <;> simp_all
      rw [this]
      have e : w.drew.cell? ⟨b, j, none⟩ = arr[j]? := by simp [World.cell?, show w.drew.heap = w.heap from rfl, hmem]
      rw [e]; simpa using hj
    · cases hj
  have hik : i + (n + 1 - i) = n + 1 := by omega
  have hkk : (n : Int) + 1 - (i : Int) = ((n + 1 - i : Nat) : Int) := by omega
  obtain ⟨W1, hW1⟩ : ∃ W1, W1 = w.drew.alloc (.cells ROW 28) := ⟨_, rfl⟩
  have hrz : ∀ ty, (Builtin.append_ #[24, 3] ty #[.slice (some ⟨b, 0, none⟩) i c, .int .i64 ((n : Int) + 1 - (i : Int))]).run Try.prog w = .ok (.slice (some ⟨w.heap.size, 0, none⟩) (n + 1) G) W1 := fun ty => by
    have hnx := nextslicecap_le (need := n + 1) (old := c) (by omega)
    have h := Lib.run_append_grow_zeros w 24 3 ty 28 inf z .i64 .i64 iqU34 iqI34 hinf hzz (some ⟨b, 0, none⟩) i c (arr.toList.take (i * 3)) hold (n + 1 - i) (by omega) (by omega) (by omega) (by omega) (by rw [hbb]; omega) (by rw [hbb, hik]; omega)
    rw [hik, ← hG, ← hROW, ← hW1] at h
    rw [hkk]
    exact h
  have hWn : W1.heap[w.heap.size]? = some (.cells ROW 28 (0, 0)) := by rw [hW1]; exact heap_alloc_new w.drew _
  have hWo : ∀ j, j < w.heap.size → W1.heap[j]? = w.heap[j]? := fun j hj => by rw [hW1]; exact heap_alloc_old w.drew _ hj
  have hcp1 : ∀ (W : World), W.heap = W1.heap → ∀ ty dc, (Builtin.copy_ #[24, 24] ty #[.slice (some ⟨w.heap.size, i * 3, none⟩) (n + 1 - i) dc, .slice (some ⟨vb, vo, none⟩) 1 vc]).run Try.prog W = .ok (.int .i64 ((1 : Nat) : Int)) (W.setRow w.heap.size A1) := fun W hW ty dc => by
    rw [hA1]
    refine run_copyR iqU34 hinf W (fz := (0, 0)) (by rw [hW]; exact hWn) (fun j _ hj => by simp at hj) _ _ _ (m := 1) (k := 1) (by omega) (lenOf_slice _ _ _ _) (run_firstCells_some W _ _ _ _ _ _ (by rw [hsz]; exact hvl) (fun j v hj => ?_)) (by omega) h1v
    have : (⟨vb, vo, none⟩ : Addr).add j = ⟨vb, vo + j, none⟩ := by unfold Addr.add; split <;> simp_all
    rw [this]
    have e : W.cell? ⟨vb, vo + j, none⟩ = va[vo + j]? := by simp [World.cell?, hW, hWo vb hvw, hmemv]
    rw [e]; exact hvs j v hj
  have hcp2 : ∀ (W : World), W.heap = (W1.setRow w.heap.size A1).heap → ∀ ty dc sc, (Builtin.copy_ #[24, 24] ty #[.slice (some ⟨w.heap.size, (i + 1) * 3, none⟩) (n - i) dc, .slice (some ⟨b, i * 3, none⟩) (n - i) sc]).run Try.prog W = .ok (.int .i64 ((n - i : Nat) : Int)) (W.setRow w.heap.size A2) := fun W hW ty dc sc => by
    rw [hA2]
    have hm1 : W.heap[w.heap.size]? = some (.cells A1 28 (0, 0)) := by rw [hW]; exact setRow_heap W1 w.heap.size ROW A1 28 (0, 0) hWn
    refine run_copyR iqU34 hinf W (fz := (0, 0)) hm1 (fun j _ hj => by simp at hj) _ _ _ (m := n - i) (k := n - i) (by omega) (lenOf_slice _ _ _ _) (run_firstCells_some W _ _ _ _ _ _ (by rw [hsz]; exact hcl) (fun j v hj => ?_)) (by omega) h1c
    rw [hcs, List.getElem?_drop, List.getElem?_take] at hj
    split at hj
    · have : (⟨b, i * 3, none⟩ : Addr).add j = ⟨b, i * 3 + j, none⟩ := by unfold Addr.add; split <;> simp_all
      rw [this]
      have e : W.cell? ⟨b, i * 3 + j, none⟩ = arr[i * 3 + j]? := by
        have e1 : W.heap[b]? = w.heap[b]? := by rw [hW, setRow_other W1 w.heap.size b A1 (by omega)]; exact hWo b hbw
        simp [World.cell?, e1, hmem]
      rw [e]; simpa using hj
    · cases hj
  have hb1 : (0 : Int) ≤ (i : Int) + 1 := by omega
  have hin : i ≤ n := by omega
  have hb2 : ¬ (G = i + 1) := by omega
  have hb4 : ¬ (c = i) := by omega
  have hb5 : ¬ (G = i) := by omega
  have hb3 : (i : Int) ≤ (n : Int) + 1 := by omega
  have hb6 : (c : Int) < (n : Int) + 1 := by omega
  have hb7 : i ≤ c := by omega
  rw [← hW1]
  clear hG hcs hA1 hA2 hW1 hold hROW hWn hWo hik hkk
  go_enter Try.func34, Try.ntmps34
  go_wp2_with (first
    | (at_builtin; refine Lib.wpList_append_run _ rfl _ _ _ _ rfl _ _ rfl rfl _ _ (hrz _) ?_)
    | (at_builtin; refine wpList_copy_runR _ rfl _ _ 24 24 rfl _ _ rfl rfl (hcp1 _ (by exact rfl) _ _) ?_))
  have hF : ((W1.setRow w.heap.size A1).drew).heap = (W1.setRow w.heap.size A1).heap := rfl
  go_region_law_o (refine step_copy_runR rfl _ _ 24 24 rfl (.slice (some ⟨w.heap.size, (i + 1) * 3, none⟩) (n - i) (G - (i + 1))) (.slice (some ⟨b, i * 3, none⟩) (n - i) (c - i)) (by simp [Act.eval, Act.put]) (by simp [Act.eval, Act.put]) (hcp2 _ hF 3 (G - (i + 1)) (c - i)) ?_)
  go_wp2
  go_ret
  exact ⟨rfl, rfl⟩
theorem insP34 : InsP Try.prog 34 28 3 24 := by
  intro w b i n c vb vo vc arr va tb tv fz fv vs hmem hsize hf hmemv hbn hvl hvs h1v h1c hi hnc hby
  obtain ⟨inf, z, hinf, hsz, hzz, hzs, hbb⟩ := iqE34
  obtain ⟨cs, hcs⟩ : ∃ cs, cs = (arr.toList.take (n * 3)).drop (i * 3) := ⟨_, rfl⟩
  have h1 : ∀ u ∈ cs, u.oneCell' = true := fun u hu => h1c u (by rw [hcs] at hu; exact List.mem_of_mem_drop hu)
  have hcl : cs.length = (n - i) * 3 := by rw [hcs]; simp; omega
  by_cases hroom : n + 1 ≤ c
  · have hvo : vo < va.size := by
      have := hvs 0 vs[0] (List.getElem?_eq_getElem (by omega))
      have := (Array.getElem?_eq_some_iff.1 this).1
      omega
    have hov : ∀ y, (callFunc 62 #[.slice (some ⟨vb, vo, none⟩) 1 vc, .slice (some ⟨b, (i + 1) * 3, none⟩) (n - i) y]).run Try.prog w = .ok (.value (.bool false)) w := fun y => by
      rw [run_callFunc_extern Try.func62 (by kernel_rfl) (by kernel_rfl) (by kernel_rfl) (e := Extern.SlicesOverlaps.overlaps #[24, 24] #[4]) (by kernel_rfl),
        overlaps_apart2 w 24 4 28 iqU34 3 (fun w => by rw [run_size hinf, hsz]) ⟨vb, vo, none⟩ ⟨b, (i + 1) * 3, none⟩ 1 vc (n - i) y hbn tv tb va.size arr.size (by simp [World.shape?, hmemv]) (by simp [World.shape?, hmem]) (by omega)
          (by have := hf ((i + 1) * 3) (by omega); simp only [World.frozen?, hmem]; simp; omega) (by have := hf arr.size (Nat.le_refl _); simp only [World.frozen?, hmem]; simp; omega)]
      rfl
    refine (iqShift34 hinf hsz w b i n c vb vo vc arr tb fz cs vs hmem (fun j hj => hf j (by omega)) hi hroom hsize hby hbn hcs hvl (fun j u hj => by simpa [World.cell?, hmemv] using hvs j u hj) h1 h1v hov _ _ rfl rfl).mono fun x w' => ?_
    rintro ⟨rfl, rfl⟩
    have hA1s : (arr.toList.take ((i + 1) * 3) ++ (cs ++ arr.toList.drop ((i + 1) * 3 + cs.length))).toArray.size = arr.size := by simp [hcl]; omega
    have hm1 := setRow_heap w.drew b arr (arr.toList.take ((i + 1) * 3) ++ (cs ++ arr.toList.drop ((i + 1) * 3 + cs.length))).toArray tb fz hmem
    generalize hA1 : (arr.toList.take ((i + 1) * 3) ++ (cs ++ arr.toList.drop ((i + 1) * 3 + cs.length))).toArray = A1 at *
    have hA2s : (A1.toList.take (i * 3) ++ (vs ++ A1.toList.drop (i * 3 + vs.length))).toArray.size = A1.size := by simp [hvl]; omega
    have hm2 := setRow_heap (w.drew.setRow b A1) b A1 (A1.toList.take (i * 3) ++ (vs ++ A1.toList.drop (i * 3 + vs.length))).toArray tb fz hm1
    refine ⟨b, c, tb, _, fz, rfl, rfl, rfl, rfl, hm2, fun j hj => hf j (by rw [hA2s, hA1s] at hj; exact hj), by rw [hA2s, hA1s]; exact hsize, hroom, ?_, .inl ⟨rfl, rfl, by rw [hA2s, hA1s], by rw [setRow_size, setRow_size]; rfl, fun j hj => ?_⟩⟩
    · subst hA1
      exact insShiftL arr.toList vs cs (i * 3) (n * 3) 3 ((i + 1) * 3) ((n + 1) * 3) (by omega) (by omega) (by omega) (by simp; omega) hvl hcs
    · rw [setRow_other _ _ _ _ hj, setRow_other _ _ _ _ hj]; rfl
  · refine (iqGrow34 hinf hsz hzz hzs hbb w b i n c vb vo vc arr tb fz cs vs hmem hi hnc hroom hsize hby va tv fv hmemv hcs hvl hvs h1 h1v _ rfl _ _ _ rfl rfl rfl).mono fun x w' => ?_
    rintro ⟨rfl, rfl⟩
    have hGn : n + 1 ≤ grownCap w (n + 1) c 28 := grownCap_ge w _ _ _
    have hzc : ∀ k, (Builtin.zeroCells z.cells k).size = k * 3 := fun k => by rw [size_zeroCells, hzs]
    have hRs : ((arr.toList.take (i * 3)).toArray ++ Builtin.zeroCells z.cells (n + 1 - i) ++ Builtin.zeroCells z.cells (grownCap w (n + 1) c 28 - (n + 1))).size = grownCap w (n + 1) c 28 * 3 := by
      simp only [Array.size_append, hzc, List.size_toArray, List.length_take, Array.length_toList]; omega
    have hRt : ((arr.toList.take (i * 3)).toArray ++ Builtin.zeroCells z.cells (n + 1 - i) ++ Builtin.zeroCells z.cells (grownCap w (n + 1) c 28 - (n + 1))).toList.take (i * 3) = arr.toList.take (i * 3) := by
      simp only [Array.toList_append, List.append_assoc]
      exact List.take_left' (by simp; omega)
    generalize hG : grownCap w (n + 1) c 28 = G at *
    generalize hR : (arr.toList.take (i * 3)).toArray ++ Builtin.zeroCells z.cells (n + 1 - i) ++ Builtin.zeroCells z.cells (G - (n + 1)) = ROW at *
    have hm0 : (w.drew.alloc (.cells ROW 28)).heap[w.heap.size]? = some (.cells ROW 28 (0, 0)) := heap_alloc_new w.drew _
    have hA1s : (ROW.toList.take (i * 3) ++ (vs ++ ROW.toList.drop (i * 3 + vs.length))).toArray.size = ROW.size := by simp [hvl]; omega
    have hm1 := setRow_heap (w.drew.alloc (.cells ROW 28)) w.heap.size ROW (ROW.toList.take (i * 3) ++ (vs ++ ROW.toList.drop (i * 3 + vs.length))).toArray 28 (0, 0) hm0
    generalize hA1 : (ROW.toList.take (i * 3) ++ (vs ++ ROW.toList.drop (i * 3 + vs.length))).toArray = A1 at *
    have hA2s : (A1.toList.take ((i + 1) * 3) ++ (cs ++ A1.toList.drop ((i + 1) * 3 + cs.length))).toArray.size = A1.size := by simp [hcl]; omega
    have hm2 := setRow_heap ((w.drew.alloc (.cells ROW 28)).setRow w.heap.size A1).drew w.heap.size A1 (A1.toList.take ((i + 1) * 3) ++ (cs ++ A1.toList.drop ((i + 1) * 3 + cs.length))).toArray 28 (0, 0) hm1
    refine ⟨w.heap.size, G, 28, _, (0, 0), rfl, rfl, rfl, rfl, hm2, fun j _ hj => by simp at hj, by rw [hA2s, hA1s]; exact hRs, hGn, ?_, .inr ⟨rfl, rfl, ?_, fun j hj => ?_⟩⟩
    · subst hA1
      exact insGrowL arr.toList ROW.toList vs cs (i * 3) (n * 3) 3 ((i + 1) * 3) ((n + 1) * 3) (by omega) (by omega) (by omega) (by simp; omega) hvl hcs hRt
    · rw [setRow_size]
      show ((w.drew.alloc (.cells ROW 28)).setRow w.heap.size A1).heap.size = _
      rw [setRow_size]
      simp
    · rw [setRow_other _ _ _ _ (by omega)]
      show ((w.drew.alloc (.cells ROW 28)).setRow w.heap.size A1).heap[j]? = _
      rw [setRow_other _ _ _ _ (by omega)]
      exact heap_alloc_old w.drew _ hj


theorem iqU40 : Try.prog.underlying 37 = some (.slice 42) := by kernel_rfl
theorem iqI40 : Try.prog.underlying 3 = some (.int .i64) := by kernel_rfl
theorem iqE40 : ∃ (inf : TypeInfo) (z : Value), Try.prog.info? 42 = some inf ∧ inf.size = 2 ∧ inf.zero = some z ∧ z.cells.size = 2 ∧ inf.bytes = 24 := insE_of (by kernel_rfl)
set_option maxHeartbeats 4000000 in
theorem iqShift40 {inf : TypeInfo} (hinf : Try.prog.info? 42 = some inf) (hsz : inf.size = 2) (w : World) (b i n c vb vo vc : Nat) (arr : Array Value) (tb : Nat) (fz : Nat × Nat) (cs vs : List Value) (hmem : w.heap[b]? = some (.cells arr tb fz)) (hf : ∀ j, j < arr.size → ¬ (fz.1 ≤ j ∧ j < fz.2))
    (hi : i < n) (hroom : n + 1 ≤ c) (hsize : arr.size = c * 2) (hby : (n + 1) * 24 ≤ 140737488355328) (hbn : vb ≠ b)
    (hcs : cs = (arr.toList.take (n * 2)).drop (i * 2)) (hvl : vs.length = 2) (hvs : ∀ (j : Nat) (u : Value), vs[j]? = some u → w.cell? ⟨vb, vo + j, none⟩ = some u) (h1c : ∀ u ∈ cs, u.oneCell' = true) (h1v : ∀ u ∈ vs, u.oneCell' = true)
    (hov : ∀ y, (callFunc 65 #[.slice (some ⟨vb, vo, none⟩) 1 vc, .slice (some ⟨b, (i + 1) * 2, none⟩) (n - i) y]).run Try.prog w = .ok (.value (.bool false)) w) (A1 A2 : Array Value)
    (hA1 : A1 = (arr.toList.take ((i + 1) * 2) ++ (cs ++ arr.toList.drop ((i + 1) * 2 + cs.length))).toArray) (hA2 : A2 = (A1.toList.take (i * 2) ++ (vs ++ A1.toList.drop (i * 2 + vs.length))).toArray) :
    Calls Try.prog 40 #[.slice (some ⟨b, 0, none⟩) n c, .int .i64 (i : Nat), .slice (some ⟨vb, vo, none⟩) 1 vc] w fun e w' => e = .returned (.slice (some ⟨b, 0, none⟩) (n + 1) c) ∧ w' = (w.drew.setRow b A1).setRow b A2 := by
  have mixed := mixed
  have hz2 : ¬ ((i : Int) = (n : Int)) := by omega
  have hw1 : IntKind.i64.wrap ((i : Int) + (1 : Int)) = (i : Int) + (1 : Int) := by rw [IntKind.wrap_i64]; omega
  have hw2 : IntKind.i64.wrap ((n : Int) + (1 : Int)) = (n : Int) + (1 : Int) := by rw [IntKind.wrap_i64]; omega
  have hcl : cs.length = (n - i) * 2 := by rw [hcs]; simp; omega
  have hA1s : A1.size = arr.size := by rw [hA1]; simp [hcl]; omega
  have hcp1 : ∀ ty dc sc, (Builtin.copy_ #[37, 37] ty #[.slice (some ⟨b, (i + 1) * 2, none⟩) (n - i) dc, .slice (some ⟨b, i * 2, none⟩) (n + 1 - i) sc]).run Try.prog w.drew = .ok (.int .i64 ((n - i : Nat) : Int)) (w.drew.setRow b A1) := fun ty dc sc => by
    rw [hA1]
    refine run_copyR iqU40 hinf w.drew (fz := fz) hmem hf _ _ _ (m := n + 1 - i) (k := n - i) (by omega) (lenOf_slice _ _ _ _) (run_firstCells_some w.drew _ _ _ _ _ _ (by rw [hsz]; exact hcl) (fun j v hj => ?_)) (by omega) h1c
    rw [hcs, List.getElem?_drop, List.getElem?_take] at hj
    split at hj
    · have : (⟨b, i * 2, none⟩ : Addr).add j = ⟨b, i * 2 + j, none⟩ := by unfold Addr.add; split <;> simp_all
      rw [this]
      have e : w.drew.cell? ⟨b, i * 2 + j, none⟩ = arr[i * 2 + j]? := by simp [World.cell?, show w.drew.heap = w.heap from rfl, hmem]
      rw [e]; simpa using hj
    · cases hj
  have hcp2 : ∀ (W : World), W.heap = (w.drew.setRow b A1).heap → ∀ ty dc, (Builtin.copy_ #[37, 37] ty #[.slice (some ⟨b, i * 2, none⟩) (n + 1 - i) dc, .slice (some ⟨vb, vo, none⟩) 1 vc]).run Try.prog W = .ok (.int .i64 ((1 : Nat) : Int)) (W.setRow b A2) := fun W hW ty dc => by
    rw [hA2]
    have hm1 : W.heap[b]? = some (.cells A1 tb fz) := by rw [hW]; exact setRow_heap w.drew b arr A1 tb fz hmem
    refine run_copyR iqU40 hinf W (fz := fz) hm1 (by rw [hA1s]; exact hf) _ _ _ (m := 1) (k := 1) (by omega) (lenOf_slice _ _ _ _) (run_firstCells_some W _ _ _ _ _ _ (by rw [hsz]; exact hvl) (fun j v hj => ?_)) (by omega) h1v
    have : (⟨vb, vo, none⟩ : Addr).add j = ⟨vb, vo + j, none⟩ := by unfold Addr.add; split <;> simp_all
    rw [this]
    have e : W.cell? ⟨vb, vo + j, none⟩ = w.cell? ⟨vb, vo + j, none⟩ := cell_congr (by rw [hW]; exact setRow_other w.drew b vb A1 hbn)
    rw [e]; exact hvs j v hj
  have hb1 : (0 : Int) ≤ (i : Int) + 1 := by omega
  have hin : i ≤ n := by omega
  have hb2 : ¬ (c = i + 1) := by omega
  have hb4 : ¬ (c = i) := by omega
  have hb3 : (i : Int) ≤ (n : Int) + 1 := by omega
  clear hcs hA1 hA2
  go_enter Try.func40, Try.ntmps40
  go_wp2_with (simp only [hov])
  go_region_law_o (refine step_copy_runR rfl _ _ 37 37 rfl _ _ (by simp [Act.eval, Act.put]) (by simp [Act.eval, Act.put]) (hcp1 _ _ _) ?_)
  go_wp2_with (at_builtin; refine wpList_copy_runR _ rfl _ _ 37 37 rfl _ _ rfl rfl (hcp2 _ rfl _ _) ?_)
  go_ret
  exact ⟨rfl, rfl⟩
set_option maxHeartbeats 4000000 in
theorem iqGrow40 {inf : TypeInfo} {z : Value} (hinf : Try.prog.info? 42 = some inf) (hsz : inf.size = 2) (hzz : inf.zero = some z) (hzs : z.cells.size = 2) (hbb : inf.bytes = 24) (w : World) (b i n c vb vo vc : Nat) (arr : Array Value) (tb : Nat) (fz : Nat × Nat) (cs vs : List Value) (hmem : w.heap[b]? = some (.cells arr tb fz))
    (hi : i < n) (hnc : n ≤ c) (hroom : ¬ (n + 1 ≤ c)) (hsize : arr.size = c * 2) (hby : (n + 1) * 24 ≤ 140737488355328) (va : Array Value) (tv : Nat) (fv : Nat × Nat) (hmemv : w.heap[vb]? = some (.cells va tv fv))
    (hcs : cs = (arr.toList.take (n * 2)).drop (i * 2)) (hvl : vs.length = 2) (hvs : ∀ (j : Nat) (u : Value), vs[j]? = some u → va[vo + j]? = some u) (h1c : ∀ u ∈ cs, u.oneCell' = true) (h1v : ∀ u ∈ vs, u.oneCell' = true)
    (G : Nat) (hG : G = grownCap w (n + 1) c 42) (ROW A1 A2 : Array Value)
    (hROW : ROW = (arr.toList.take (i * 2)).toArray ++ Builtin.zeroCells z.cells (n + 1 - i) ++ Builtin.zeroCells z.cells (G - (n + 1)))
    (hA1 : A1 = (ROW.toList.take (i * 2) ++ (vs ++ ROW.toList.drop (i * 2 + vs.length))).toArray) (hA2 : A2 = (A1.toList.take ((i + 1) * 2) ++ (cs ++ A1.toList.drop ((i + 1) * 2 + cs.length))).toArray) :
    Calls Try.prog 40 #[.slice (some ⟨b, 0, none⟩) n c, .int .i64 (i : Nat), .slice (some ⟨vb, vo, none⟩) 1 vc] w fun e w' => e = .returned (.slice (some ⟨w.heap.size, 0, none⟩) (n + 1) G) ∧ w' = (((w.drew.alloc (.cells ROW 42)).setRow w.heap.size A1).drew).setRow w.heap.size A2 := by
  have mixed := mixed
  have hz2 : ¬ ((i : Int) = (n : Int)) := by omega
  have hw1 : IntKind.i64.wrap ((i : Int) + (1 : Int)) = (i : Int) + (1 : Int) := by rw [IntKind.wrap_i64]; omega
  have hw2 : IntKind.i64.wrap ((n : Int) + (1 : Int)) = (n : Int) + (1 : Int) := by rw [IntKind.wrap_i64]; omega
  have hw3 : IntKind.i64.wrap ((n : Int) + (1 : Int) - (i : Int)) = (n : Int) + (1 : Int) - (i : Int) := by rw [IntKind.wrap_i64]; omega
  have hcl : cs.length = (n - i) * 2 := by rw [hcs]; simp; omega
  have hGn : n + 1 ≤ G := by rw [hG]; exact grownCap_ge w _ _ _
  have hbw : b < w.heap.size := (Array.getElem?_eq_some_iff.1 hmem).1
  have hvw : vb < w.heap.size := (Array.getElem?_eq_some_iff.1 hmemv).1
  have hzc : ∀ k, (Builtin.zeroCells z.cells k).size = k * 2 := fun k => by rw [size_zeroCells, hzs]
  have hRs : ROW.size = G * 2 := by
    rw [hROW]; simp only [Array.size_append, hzc, List.size_toArray, List.length_take, Array.length_toList]; omega
  have hA1s : A1.size = ROW.size := by rw [hA1]; simp [hvl]; omega
  have hold : (Builtin.firstCells inf.size i (.slice (some ⟨b, 0, none⟩) i c)).run Try.prog w.drew = .ok (arr.toList.take (i * 2)).toArray w.drew := by
    rw [hsz]
    refine run_firstCells_some w.drew 2 i ⟨b, 0, none⟩ i c (arr.toList.take (i * 2)) (by rw [List.length_take]; simp; omega) (fun j v hj => ?_)
    rw [List.getElem?_take] at hj
    split at hj
    · have : (⟨b, 0, none⟩ : Addr).add j = ⟨b, j, none⟩ := by unfold Addr.add; split <;> simp_all
      rw [this]
      have e : w.drew.cell? ⟨b, j, none⟩ = arr[j]? := by simp [World.cell?, show w.drew.heap = w.heap from rfl, hmem]
      rw [e]; simpa using hj
    · cases hj
  have hik : i + (n + 1 - i) = n + 1 := by omega
  have hkk : (n : Int) + 1 - (i : Int) = ((n + 1 - i : Nat) : Int) := by omega
  obtain ⟨W1, hW1⟩ : ∃ W1, W1 = w.drew.alloc (.cells ROW 42) := ⟨_, rfl⟩
  have hrz : ∀ ty, (Builtin.append_ #[37, 3] ty #[.slice (some ⟨b, 0, none⟩) i c, .int .i64 ((n : Int) + 1 - (i : Int))]).run Try.prog w = .ok (.slice (some ⟨w.heap.size, 0, none⟩) (n + 1) G) W1 := fun ty => by
    have hnx := nextslicecap_le (need := n + 1) (old := c) (by omega)
    have h := Lib.run_append_grow_zeros w 37 3 ty 42 inf z .i64 .i64 iqU40 iqI40 hinf hzz (some ⟨b, 0, none⟩) i c (arr.toList.take (i * 2)) hold (n + 1 - i) (by omega) (by omega) (by omega) (by omega) (by rw [hbb]; omega) (by rw [hbb, hik]; omega)
    rw [hik, ← hG, ← hROW, ← hW1] at h
    rw [hkk]
    exact h
  have hWn : W1.heap[w.heap.size]? = some (.cells ROW 42 (0, 0)) := by rw [hW1]; exact heap_alloc_new w.drew _
  have hWo : ∀ j, j < w.heap.size → W1.heap[j]? = w.heap[j]? := fun j hj => by rw [hW1]; exact heap_alloc_old w.drew _ hj
  have hcp1 : ∀ (W : World), W.heap = W1.heap → ∀ ty dc, (Builtin.copy_ #[37, 37] ty #[.slice (some ⟨w.heap.size, i * 2, none⟩) (n + 1 - i) dc, .slice (some ⟨vb, vo, none⟩) 1 vc]).run Try.prog W = .ok (.int .i64 ((1 : Nat) : Int)) (W.setRow w.heap.size A1) := fun W hW ty dc => by
    rw [hA1]
    refine run_copyR iqU40 hinf W (fz := (0, 0)) (by rw [hW]; exact hWn) (fun j _ hj => by simp at hj) _ _ _ (m := 1) (k := 1) (by omega) (lenOf_slice _ _ _ _) (run_firstCells_some W _ _ _ _ _ _ (by rw [hsz]; exact hvl) (fun j v hj => ?_)) (by omega) h1v
    have : (⟨vb, vo, none⟩ : Addr).add j = ⟨vb, vo + j, none⟩ := by unfold Addr.add; split <;> simp_all
    rw [this]
    have e : W.cell? ⟨vb, vo + j, none⟩ = va[vo + j]? := by simp [World.cell?, hW, hWo vb hvw, hmemv]
    rw [e]; exact hvs j v hj
  have hcp2 : ∀ (W : World), W.heap = (W1.setRow w.heap.size A1).heap → ∀ ty dc sc, (Builtin.copy_ #[37, 37] ty #[.slice (some ⟨w.heap.size, (i + 1) * 2, none⟩) (n - i) dc, .slice (some ⟨b, i * 2, none⟩) (n - i) sc]).run Try.prog W = .ok (.int .i64 ((n - i : Nat) : Int)) (W.setRow w.heap.size A2) := fun W hW ty dc sc => by
    rw [hA2]
    have hm1 : W.heap[w.heap.size]? = some (.cells A1 42 (0, 0)) := by rw [hW]; exact setRow_heap W1 w.heap.size ROW A1 42 (0, 0) hWn
    refine run_copyR iqU40 hinf W (fz := (0, 0)) hm1 (fun j _ hj => by simp at hj) _ _ _ (m := n - i) (k := n - i) (by omega) (lenOf_slice _ _ _ _) (run_firstCells_some W _ _ _ _ _ _ (by rw [hsz]; exact hcl) (fun j v hj => ?_)) (by omega) h1c
    rw [hcs, List.getElem?_drop, List.getElem?_take] at hj
    split at hj
    · have : (⟨b, i * 2, none⟩ : Addr).add j = ⟨b, i * 2 + j, none⟩ := by unfold Addr.add; split <;> simp_all
      rw [this]
      have e : W.cell? ⟨b, i * 2 + j, none⟩ = arr[i * 2 + j]? := by
        have e1 : W.heap[b]? = w.heap[b]? := by rw [hW, setRow_other W1 w.heap.size b A1 (by omega)]; exact hWo b hbw
        simp [World.cell?, e1, hmem]
      rw [e]; simpa using hj
    · cases hj
  have hb1 : (0 : Int) ≤ (i : Int) + 1 := by omega
  have hin : i ≤ n := by omega
  have hb2 : ¬ (G = i + 1) := by omega
  have hb4 : ¬ (c = i) := by omega
  have hb5 : ¬ (G = i) := by omega
  have hb3 : (i : Int) ≤ (n : Int) + 1 := by omega
  have hb6 : (c : Int) < (n : Int) + 1 := by omega
  have hb7 : i ≤ c := by omega
  rw [← hW1]
  clear hG hcs hA1 hA2 hW1 hold hROW hWn hWo hik hkk
  go_enter Try.func40, Try.ntmps40
  go_wp2_with (first
    | (at_builtin; refine Lib.wpList_append_run _ rfl _ _ _ _ rfl _ _ rfl rfl _ _ (hrz _) ?_)
    | (at_builtin; refine wpList_copy_runR _ rfl _ _ 37 37 rfl _ _ rfl rfl (hcp1 _ (by exact rfl) _ _) ?_))
  have hF : ((W1.setRow w.heap.size A1).drew).heap = (W1.setRow w.heap.size A1).heap := rfl
  go_region_law_o (refine step_copy_runR rfl _ _ 37 37 rfl (.slice (some ⟨w.heap.size, (i + 1) * 2, none⟩) (n - i) (G - (i + 1))) (.slice (some ⟨b, i * 2, none⟩) (n - i) (c - i)) (by simp [Act.eval, Act.put]) (by simp [Act.eval, Act.put]) (hcp2 _ hF 3 (G - (i + 1)) (c - i)) ?_)
  go_wp2
  go_ret
  exact ⟨rfl, rfl⟩
theorem insP40 : InsP Try.prog 40 42 2 24 := by
  intro w b i n c vb vo vc arr va tb tv fz fv vs hmem hsize hf hmemv hbn hvl hvs h1v h1c hi hnc hby
  obtain ⟨inf, z, hinf, hsz, hzz, hzs, hbb⟩ := iqE40
  obtain ⟨cs, hcs⟩ : ∃ cs, cs = (arr.toList.take (n * 2)).drop (i * 2) := ⟨_, rfl⟩
  have h1 : ∀ u ∈ cs, u.oneCell' = true := fun u hu => h1c u (by rw [hcs] at hu; exact List.mem_of_mem_drop hu)
  have hcl : cs.length = (n - i) * 2 := by rw [hcs]; simp; omega
  by_cases hroom : n + 1 ≤ c
  · have hvo : vo < va.size := by
      have := hvs 0 vs[0] (List.getElem?_eq_getElem (by omega))
      have := (Array.getElem?_eq_some_iff.1 this).1
      omega
    have hov : ∀ y, (callFunc 65 #[.slice (some ⟨vb, vo, none⟩) 1 vc, .slice (some ⟨b, (i + 1) * 2, none⟩) (n - i) y]).run Try.prog w = .ok (.value (.bool false)) w := fun y => by
      rw [run_callFunc_extern Try.func65 (by kernel_rfl) (by kernel_rfl) (by kernel_rfl) (e := Extern.SlicesOverlaps.overlaps #[37, 37] #[4]) (by kernel_rfl),
        overlaps_apart2 w 37 4 42 iqU40 2 (fun w => by rw [run_size hinf, hsz]) ⟨vb, vo, none⟩ ⟨b, (i + 1) * 2, none⟩ 1 vc (n - i) y hbn tv tb va.size arr.size (by simp [World.shape?, hmemv]) (by simp [World.shape?, hmem]) (by omega)
          (by have := hf ((i + 1) * 2) (by omega); simp only [World.frozen?, hmem]; simp; omega) (by have := hf arr.size (Nat.le_refl _); simp only [World.frozen?, hmem]; simp; omega)]
      rfl
    refine (iqShift40 hinf hsz w b i n c vb vo vc arr tb fz cs vs hmem (fun j hj => hf j (by omega)) hi hroom hsize hby hbn hcs hvl (fun j u hj => by simpa [World.cell?, hmemv] using hvs j u hj) h1 h1v hov _ _ rfl rfl).mono fun x w' => ?_
    rintro ⟨rfl, rfl⟩
    have hA1s : (arr.toList.take ((i + 1) * 2) ++ (cs ++ arr.toList.drop ((i + 1) * 2 + cs.length))).toArray.size = arr.size := by simp [hcl]; omega
    have hm1 := setRow_heap w.drew b arr (arr.toList.take ((i + 1) * 2) ++ (cs ++ arr.toList.drop ((i + 1) * 2 + cs.length))).toArray tb fz hmem
    generalize hA1 : (arr.toList.take ((i + 1) * 2) ++ (cs ++ arr.toList.drop ((i + 1) * 2 + cs.length))).toArray = A1 at *
    have hA2s : (A1.toList.take (i * 2) ++ (vs ++ A1.toList.drop (i * 2 + vs.length))).toArray.size = A1.size := by simp [hvl]; omega
    have hm2 := setRow_heap (w.drew.setRow b A1) b A1 (A1.toList.take (i * 2) ++ (vs ++ A1.toList.drop (i * 2 + vs.length))).toArray tb fz hm1
    refine ⟨b, c, tb, _, fz, rfl, rfl, rfl, rfl, hm2, fun j hj => hf j (by rw [hA2s, hA1s] at hj; exact hj), by rw [hA2s, hA1s]; exact hsize, hroom, ?_, .inl ⟨rfl, rfl, by rw [hA2s, hA1s], by rw [setRow_size, setRow_size]; rfl, fun j hj => ?_⟩⟩
    · subst hA1
      exact insShiftL arr.toList vs cs (i * 2) (n * 2) 2 ((i + 1) * 2) ((n + 1) * 2) (by omega) (by omega) (by omega) (by simp; omega) hvl hcs
    · rw [setRow_other _ _ _ _ hj, setRow_other _ _ _ _ hj]; rfl
  · refine (iqGrow40 hinf hsz hzz hzs hbb w b i n c vb vo vc arr tb fz cs vs hmem hi hnc hroom hsize hby va tv fv hmemv hcs hvl hvs h1 h1v _ rfl _ _ _ rfl rfl rfl).mono fun x w' => ?_
    rintro ⟨rfl, rfl⟩
    have hGn : n + 1 ≤ grownCap w (n + 1) c 42 := grownCap_ge w _ _ _
    have hzc : ∀ k, (Builtin.zeroCells z.cells k).size = k * 2 := fun k => by rw [size_zeroCells, hzs]
    have hRs : ((arr.toList.take (i * 2)).toArray ++ Builtin.zeroCells z.cells (n + 1 - i) ++ Builtin.zeroCells z.cells (grownCap w (n + 1) c 42 - (n + 1))).size = grownCap w (n + 1) c 42 * 2 := by
      simp only [Array.size_append, hzc, List.size_toArray, List.length_take, Array.length_toList]; omega
    have hRt : ((arr.toList.take (i * 2)).toArray ++ Builtin.zeroCells z.cells (n + 1 - i) ++ Builtin.zeroCells z.cells (grownCap w (n + 1) c 42 - (n + 1))).toList.take (i * 2) = arr.toList.take (i * 2) := by
      simp only [Array.toList_append, List.append_assoc]
      exact List.take_left' (by simp; omega)
    generalize hG : grownCap w (n + 1) c 42 = G at *
    generalize hR : (arr.toList.take (i * 2)).toArray ++ Builtin.zeroCells z.cells (n + 1 - i) ++ Builtin.zeroCells z.cells (G - (n + 1)) = ROW at *
    have hm0 : (w.drew.alloc (.cells ROW 42)).heap[w.heap.size]? = some (.cells ROW 42 (0, 0)) := heap_alloc_new w.drew _
    have hA1s : (ROW.toList.take (i * 2) ++ (vs ++ ROW.toList.drop (i * 2 + vs.length))).toArray.size = ROW.size := by simp [hvl]; omega
    have hm1 := setRow_heap (w.drew.alloc (.cells ROW 42)) w.heap.size ROW (ROW.toList.take (i * 2) ++ (vs ++ ROW.toList.drop (i * 2 + vs.length))).toArray 42 (0, 0) hm0
    generalize hA1 : (ROW.toList.take (i * 2) ++ (vs ++ ROW.toList.drop (i * 2 + vs.length))).toArray = A1 at *
    have hA2s : (A1.toList.take ((i + 1) * 2) ++ (cs ++ A1.toList.drop ((i + 1) * 2 + cs.length))).toArray.size = A1.size := by simp [hcl]; omega
    have hm2 := setRow_heap ((w.drew.alloc (.cells ROW 42)).setRow w.heap.size A1).drew w.heap.size A1 (A1.toList.take ((i + 1) * 2) ++ (cs ++ A1.toList.drop ((i + 1) * 2 + cs.length))).toArray 42 (0, 0) hm1
    refine ⟨w.heap.size, G, 42, _, (0, 0), rfl, rfl, rfl, rfl, hm2, fun j _ hj => by simp at hj, by rw [hA2s, hA1s]; exact hRs, hGn, ?_, .inr ⟨rfl, rfl, ?_, fun j hj => ?_⟩⟩
    · subst hA1
      exact insGrowL arr.toList ROW.toList vs cs (i * 2) (n * 2) 2 ((i + 1) * 2) ((n + 1) * 2) (by omega) (by omega) (by omega) (by simp; omega) hvl hcs hRt
    · rw [setRow_size]
      show ((w.drew.alloc (.cells ROW 42)).setRow w.heap.size A1).heap.size = _
      rw [setRow_size]
      simp
    · rw [setRow_other _ _ _ _ (by omega)]
      show ((w.drew.alloc (.cells ROW 42)).setRow w.heap.size A1).heap[j]? = _
      rw [setRow_other _ _ _ _ (by omega)]
      exact heap_alloc_old w.drew _ hj


set_option maxHeartbeats 4000000 in
theorem insEndN34 (w : World) (n c : Nat) (a : Addr) (vc : Nat) (hnc : n ≤ c) (hc0 : c = 0) (hn : n ≤ 140737488355328) (x : Option Addr) (m k : Nat) {w1 : World}
    (hap : ∀ ty, (Builtin.append_ #[24, 24] ty #[.slice none n c, .slice (some a) 1 vc]).run Try.prog w = .ok (.slice x m k) w1) :
    Calls Try.prog 34 #[.slice none n c, .int .i64 (n : Nat), .slice (some a) 1 vc] w fun e w' => e = .returned (.slice x m k) ∧ w' = w1 := by
  have mixed := mixed
  have hb1 : (0 : Int) ≤ (n : Int) := by omega
  have hb2 : (n : Int) ≤ (n : Int) := Int.le_refl _
  have hb7 : (n : Int) ≤ (c : Int) := by omega
  have hn0 : n = 0 := by omega
  subst hc0 hn0
  all_goals
    go_enter Try.func34, Try.ntmps34
    go_wp2_with (at_builtin; refine Lib.wpList_append_run _ rfl _ _ _ _ rfl _ _ rfl rfl _ _ (hap _) ?_)
    all_goals
      go_ret
      exact ⟨rfl, rfl⟩


set_option maxHeartbeats 4000000 in
theorem insEndS34 (w : World) (b : Addr) (n c : Nat) (a : Addr) (vc : Nat) (hnc : n ≤ c) (hn : n ≤ 140737488355328) (x : Option Addr) (m k : Nat) {w1 : World}
    (hap : ∀ ty, (Builtin.append_ #[24, 24] ty #[.slice (some b) n c, .slice (some a) 1 vc]).run Try.prog w = .ok (.slice x m k) w1) :
    Calls Try.prog 34 #[.slice (some b) n c, .int .i64 (n : Nat), .slice (some a) 1 vc] w fun e w' => e = .returned (.slice x m k) ∧ w' = w1 := by
  have mixed := mixed
  have hb1 : (0 : Int) ≤ (n : Int) := by omega
  have hb2 : (n : Int) ≤ (n : Int) := Int.le_refl _
  have hb7 : (n : Int) ≤ (c : Int) := by omega
  have hb8 : True := trivial
  by_cases hcn : c = n
  all_goals
    go_enter Try.func34, Try.ntmps34
    go_wp2_with (at_builtin; refine Lib.wpList_append_run _ rfl _ _ _ _ rfl _ _ rfl rfl _ _ (hap _) ?_)
    all_goals
      go_ret
      exact ⟨rfl, rfl⟩


set_option maxHeartbeats 4000000 in
theorem insEndN40 (w : World) (n c : Nat) (a : Addr) (vc : Nat) (hnc : n ≤ c) (hc0 : c = 0) (hn : n ≤ 140737488355328) (x : Option Addr) (m k : Nat) {w1 : World}
    (hap : ∀ ty, (Builtin.append_ #[37, 37] ty #[.slice none n c, .slice (some a) 1 vc]).run Try.prog w = .ok (.slice x m k) w1) :
    Calls Try.prog 40 #[.slice none n c, .int .i64 (n : Nat), .slice (some a) 1 vc] w fun e w' => e = .returned (.slice x m k) ∧ w' = w1 := by
  have mixed := mixed
  have hb1 : (0 : Int) ≤ (n : Int) := by omega
  have hb2 : (n : Int) ≤ (n : Int) := Int.le_refl _
  have hb7 : (n : Int) ≤ (c : Int) := by omega
  have hn0 : n = 0 := by omega
  subst hc0 hn0
  all_goals
    go_enter Try.func40, Try.ntmps40
    go_wp2_with (at_builtin; refine Lib.wpList_append_run _ rfl _ _ _ _ rfl _ _ rfl rfl _ _ (hap _) ?_)
    all_goals
      go_ret
      exact ⟨rfl, rfl⟩


set_option maxHeartbeats 4000000 in
theorem insEndS40 (w : World) (b : Addr) (n c : Nat) (a : Addr) (vc : Nat) (hnc : n ≤ c) (hn : n ≤ 140737488355328) (x : Option Addr) (m k : Nat) {w1 : World}
    (hap : ∀ ty, (Builtin.append_ #[37, 37] ty #[.slice (some b) n c, .slice (some a) 1 vc]).run Try.prog w = .ok (.slice x m k) w1) :
    Calls Try.prog 40 #[.slice (some b) n c, .int .i64 (n : Nat), .slice (some a) 1 vc] w fun e w' => e = .returned (.slice x m k) ∧ w' = w1 := by
  have mixed := mixed
  have hb1 : (0 : Int) ≤ (n : Int) := by omega
  have hb2 : (n : Int) ≤ (n : Int) := Int.le_refl _
  have hb7 : (n : Int) ≤ (c : Int) := by omega
  have hb8 : True := trivial
  by_cases hcn : c = n
  all_goals
    go_enter Try.func40, Try.ntmps40
    go_wp2_with (at_builtin; refine Lib.wpList_append_run _ rfl _ _ _ _ rfl _ _ rfl rfl _ _ (hap _) ?_)
    all_goals
      go_ret
      exact ⟨rfl, rfl⟩


theorem insN34 : InsE Try.prog 34 24 28 3 24 := by
  refine ⟨iqU34, ?_, fun w base n c a vc hnc hbn hn x m k w1 hap => ?_⟩
  · obtain ⟨inf, z, h1, h2, h3, h4, h5⟩ := iqE34
    exact ⟨inf, z, h1, h2, h3, h4, h5⟩
  · cases base with
    | none => exact insEndN34 w n c a vc hnc (hbn rfl) hn x m k hap
    | some b => exact insEndS34 w b n c a vc hnc hn x m k hap

theorem insN40 : InsE Try.prog 40 37 42 2 24 := by
  refine ⟨iqU40, ?_, fun w base n c a vc hnc hbn hn x m k w1 hap => ?_⟩
  · obtain ⟨inf, z, h1, h2, h3, h4, h5⟩ := iqE40
    exact ⟨inf, z, h1, h2, h3, h4, h5⟩
  · cases base with
    | none => exact insEndN40 w n c a vc hnc (hbn rfl) hn x m k hap
    | some b => exact insEndS40 w b n c a vc hnc hn x m k hap

def as_slices_Clone_api_Kid : List AS := [.val (.list (.agg (.pair (.int .i64) (.pair (.int .i64) (.int .i64)))))]
def bs_slices_Clone_api_Kid : List BS := []
def pout_slices_Clone_api_Kid : Pat := ⟨[(2, .acc 700005)], [(700005, .nrow 28 (.agg (.pair (.int .i64) (.pair (.int .i64) (.int .i64)))) false true)]⟩
noncomputable def G_slices_Clone_api_Kid  (N : Nat) : OrcT := orcOf []
noncomputable def F_slices_Clone_api_Kid  (N : Nat) (x : List (Int × Int × Int)) : Option (List (Int × Int × Int)) :=
  (evT (G_slices_Clone_api_Kid  N) L0 P0 []
    [] N 400 (bodyOf Try.f32) ⟨8, slots 0 [.nl ⟨(.agg (.pair (.int .i64) (.pair (.int .i64) (.int .i64)))), x⟩], tabU (lbOf as_slices_Clone_api_Kid bs_slices_Clone_api_Kid x) [], []⟩).elim (kRet 8 pout_slices_Clone_api_Kid (kpL []) (lbOf as_slices_Clone_api_Kid bs_slices_Clone_api_Kid x))
def out_slices_Clone_api_Kid (y : List (Int × Int × Int)) : V × List OK × List OK := (.acc 2000000 0, [], [.nrow 28 false true ⟨(.agg (.pair (.int .i64) (.pair (.int .i64) (.int .i64)))), y⟩])
noncomputable def V_slices_Clone_api_Kid  (N : Nat) (x : List (Int × Int × Int)) : Option (List (Int × Int × Int)) :=
  cnd (decide (List.length x * (24:Nat) ≤ (140737488355328:Nat))) (some x) none
theorem FV_slices_Clone_api_Kid_eq  (N : Nat) (x : List (Int × Int × Int)) : F_slices_Clone_api_Kid  N x = V_slices_Clone_api_Kid  N x := by kernel_rfl
noncomputable def W_slices_Clone_api_Kid (N : Nat) (x : List (Int × Int × Int)) : Option (List (Int × Int × Int)) := V_slices_Clone_api_Kid  N x
theorem F_slices_Clone_api_Kid_eq (N : Nat) (x : List (Int × Int × Int)) : F_slices_Clone_api_Kid  N x = W_slices_Clone_api_Kid N x := (FV_slices_Clone_api_Kid_eq  N x).trans (by kernel_rfl)
noncomputable def conw_slices_Clone_api_Kid (w : List (Int × Int × Int) → Option (List (Int × Int × Int))) : Con := ⟨32, as_slices_Clone_api_Kid, bs_slices_Clone_api_Kid, List (Int × Int × Int), w, out_slices_Clone_api_Kid⟩
noncomputable def con_slices_Clone_api_Kid (N : Nat) : Con := conw_slices_Clone_api_Kid (W_slices_Clone_api_Kid N)
theorem R_slices_Clone_api_Kid_eq (x : List (Int × Int × Int)) (y : List (Int × Int × Int)) : retOf2 P0 Try.f32 (kpL []) (lbOf as_slices_Clone_api_Kid bs_slices_Clone_api_Kid x) (patS ⟨8, [], [], []⟩ pout_slices_Clone_api_Kid y) = some (out_slices_Clone_api_Kid y) := by kernel_rfl
noncomputable def FA_slices_Clone_api_Kid : Option (List (Int × Int × Int)) := (evT (G_slices_Clone_api_Kid 1) L0 P0 [] [] 1 400 (bodyOf Try.f32) ⟨8, slots 0 [.snil], tabU [] [], []⟩).elim (kRet 8 pout_slices_Clone_api_Kid (kpL []) [])
theorem FA_slices_Clone_api_Kid_eq : FA_slices_Clone_api_Kid = some [] := by kernel_rfl
theorem WN_slices_Clone_api_Kid (N : Nat) (r : List (Int × Int × Int)) (h : W_slices_Clone_api_Kid N [] = some r) : r = [] := by
  have e : W_slices_Clone_api_Kid N [] = some [] := by kernel_rfl
  rw [e] at h; injection h with h; exact h.symm
theorem con_slices_Clone_api_Kid_ok (N : Nat) : Con.ok P0 (con_slices_Clone_api_Kid N) := ⟨⟨Try.f32, Try.func32, by kernel_rfl, by kernel_rfl⟩, fun (x : List (Int × Int × Int)) (r : List (Int × Int × Int)) (hr : W_slices_Clone_api_Kid N x = some r) =>
  clone_split (e := (.agg (.pair (.int .i64) (.pair (.int .i64) (.int .i64))))) (ty := 28) (l := x) (r := r)
    (spec2_evT (Γ := G_slices_Clone_api_Kid 1) (Λ := L0) (lb := []) (pout := pout_slices_Clone_api_Kid) (kp := kpL []) mixed (orcOf_ok [] (by simp)) Try.func32 (c := bodyOf Try.f32) (by kernel_rfl) (by kernel_rfl) (of_decide_eq_true (by kernel_rfl)) FA_slices_Clone_api_Kid_eq (R_slices_Clone_api_Kid_eq x []))
    (spec2_evT (Γ := G_slices_Clone_api_Kid N) (Λ := L0) (lb := []) (pout := pout_slices_Clone_api_Kid) (kp := kpL []) mixed (orcOf_ok [] (by simp)) Try.func32 (c := bodyOf Try.f32) (by kernel_rfl) (by kernel_rfl) (of_decide_eq_true (by kernel_rfl)) ((F_slices_Clone_api_Kid_eq N x).trans hr) (R_slices_Clone_api_Kid_eq x r))
    (fun h => by subst h; exact WN_slices_Clone_api_Kid N r hr)⟩
noncomputable def u_kids_seek : Uf := ⟨33, 34, Try.f33, [.val (.list (.agg (.pair (.int .i64) (.pair (.int .i64) (.int .i64))))), .val (.int .i64)], [],
⟨[(4, .val (.alt 79 (.agg (.pair (.int .i64) (.agg (.pair (.int .i64) (.pair (.int .i64) (.int .i64)))))) (.alt1 82 (.agg (.int .i64)))))], []⟩, [],
[(2, .loop [7] ⟨[(9, .val (.int .i64))], []⟩ [(.exit 0, ⟨[], []⟩), (.ret, ⟨[(4, .val (.alt 79 (.agg (.pair (.int .i64) (.agg (.pair (.int .i64) (.pair (.int .i64) (.int .i64)))))) (.alt1 82 (.agg (.int .i64)))))], []⟩)])],
[], fun y => (valW (.alt 79 (.agg (.pair (.int .i64) (.agg (.pair (.int .i64) (.pair (.int .i64) (.int .i64)))))) (.alt1 82 (.agg (.int .i64)))) y, [], [])⟩
noncomputable def V_kids_seek (N : Nat) (x : (List (Int × Int × Int)) × Int) : Option ((Int × Int × Int × Int) ⊕ Int) :=
  obind (loopN N (fun (v : Int) => cnd (decide (v < (↑(List.length x.1) : Int))) (cnd (decide ((0:Int) ≤ v) && decide (v < (↑(List.length x.1) : Int)))
    (cnd (decide (Prod.fst (List.getD x.1 (Int.toNat v) ((0:Int), (0:Int), (0:Int))) = x.2)) (some (Sum.inr (Sum.inr (Sum.inl (v, Prod.fst (List.getD
    x.1 (Int.toNat v) ((0:Int), (0:Int), (0:Int))), Prod.fst (Prod.snd (List.getD x.1 (Int.toNat v) ((0:Int), (0:Int), (0:Int)))), Prod.snd (Prod.snd
    (List.getD x.1 (Int.toNat v) ((0:Int), (0:Int), (0:Int))))))))) (cnd (decide (x.2 < Prod.fst (List.getD x.1 (Int.toNat v) ((0:Int), (0:Int),
    (0:Int))))) (some (Sum.inr (Sum.inr (Sum.inr v)))) (some (Sum.inl (wr .i64 (v + (1:Int))))))) none) (some (Sum.inr (Sum.inl ())))) (Int.ofNat
    (0:Nat))) fun (b : PUnit ⊕ Int × Int × Int × Int ⊕ Int) => selim (fun (b : PUnit) => some (Sum.inr (↑(List.length x.1) : Int))) (fun (c : Int × Int
    × Int × Int ⊕ Int) => some c) b
theorem q_kids_seek : ∀ N x, u_kids_seek.F L0 P0 (orcOf []) N x = V_kids_seek N x := by intros; kernel_rfl
noncomputable def W_kids_seek (N : Nat) := V_kids_seek N
theorem con_kids_seek_ok (N : Nat) : (u_kids_seek.con (W_kids_seek N)).ok P0 := Uf.ok mixed (q_kids_seek N) trivial Try.func33 (by kernel_rfl) fun x y => by kernel_rfl
noncomputable def u_kids_Find : Uf := ⟨12, 18, Try.f12, [.val (.list (.agg (.pair (.int .i64) (.pair (.int .i64) (.int .i64))))), .val (.int .i64)], [],
⟨[(4, .ptr 600004 0), (5, .val .bool)], [(600004, .box 28 (.val (.pair (.int .i64) (.pair (.int .i64) (.int .i64)))))]⟩, [],
[],
[], fun y => (.tup [valW (.agg (.pair (.int .i64) (.pair (.int .i64) (.int .i64)))) y.2, valW .bool y.1], [], [])⟩
noncomputable def V_kids_Find (w_kids_seek : (List (Int × Int × Int)) × Int → Option ((Int × Int × Int × Int) ⊕ Int)) (N : Nat) (x : (List (Int × Int × Int)) × Int) : Option (Bool × Int × Int × Int) :=
  obind (w_kids_seek x) fun b => selim (fun (b : Int × Int × Int × Int) => some (true, b.2)) (fun (c : Int) => some (false, (0:Int), (0:Int), (0:Int))) b
theorem q_kids_Find : ∀ w_kids_seek N x, u_kids_Find.F L0 P0 (orcOf [u_kids_seek.con w_kids_seek]) N x = V_kids_Find w_kids_seek N x := by intros; kernel_rfl
noncomputable def W_kids_Find (N : Nat) := V_kids_Find (W_kids_seek N) N
theorem con_kids_Find_ok (N : Nat) : (u_kids_Find.con (W_kids_Find N)).ok P0 := Uf.ok mixed (q_kids_Find (W_kids_seek N) N) ⟨con_kids_seek_ok N, trivial⟩ Try.func12 (by kernel_rfl) fun x y => by kernel_rfl
noncomputable def u_kids_Old : Uf := ⟨30, 22, Try.f30, [.val (.list (.agg (.pair (.int .i64) (.pair (.int .i64) (.int .i64))))), .val (.int .i64), .val (.int .i64)], [],
⟨[(6, .val .bool)], []⟩, [],
[],
[], fun y => (valW .bool y, [], [])⟩
noncomputable def V_kids_Old (w_kids_Find : (List (Int × Int × Int)) × Int → Option (Bool × Int × Int × Int)) (N : Nat) (x : (List (Int × Int × Int)) × Int × Int) : Option (Bool) :=
  obind (w_kids_Find (x.1, x.2.1)) fun b => cnd b.1 (some (decide (x.2.2 < b.2.2.1))) (some false)
theorem q_kids_Old : ∀ w_kids_Find N x, u_kids_Old.F L0 P0 (orcOf [u_kids_Find.con w_kids_Find]) N x = V_kids_Old w_kids_Find N x := by intros; kernel_rfl
noncomputable def W_kids_Old (N : Nat) := V_kids_Old (W_kids_Find N) N
theorem con_kids_Old_ok (N : Nat) : (u_kids_Old.con (W_kids_Old N)).ok P0 := Uf.ok mixed (q_kids_Old (W_kids_Find N) N) ⟨con_kids_Find_ok N, trivial⟩ Try.func30 (by kernel_rfl) fun x y => by kernel_rfl
def as_slices_Insert_api_Kid : List AS := [.acc 0, .val (.int .i64), .val (.list (.agg (.pair (.int .i64) (.pair (.int .i64) (.int .i64)))))]
def bs_slices_Insert_api_Kid : List BS := [.nrow 28 (.agg (.pair (.int .i64) (.pair (.int .i64) (.int .i64)))) true]
def out_slices_Insert_api_Kid (y : List (Int × Int × Int)) : V × List OK × List OK := (.acc 2000000 0, [.dead], [.nrow 28 false true ⟨(.agg (.pair (.int .i64) (.pair (.int .i64) (.int .i64)))), y⟩])
noncomputable def W_slices_Insert_api_Kid (N : Nat) (x : Int × (List (Int × Int × Int)) × List (Int × Int × Int)) : Option (List (Int × Int × Int)) :=
  cnd (decide ((0:Int) ≤ x.1) && decide (x.1 ≤ ((↑(List.length x.2.2) : Int) : Int)) && decide (List.length x.2.1 = (1:Nat)) && decide ((List.length x.2.2 + (1:Nat)) * (24:Nat) ≤ (140737488355328:Nat))) (some (List.take (Int.toNat x.1) x.2.2 ++ (x.2.1 ++ List.drop (Int.toNat x.1) x.2.2))) none
noncomputable def conw_slices_Insert_api_Kid (w : Int × (List (Int × Int × Int)) × List (Int × Int × Int) → Option (List (Int × Int × Int))) : Con := ⟨34, as_slices_Insert_api_Kid, bs_slices_Insert_api_Kid, List (Int × Int × Int), w, out_slices_Insert_api_Kid⟩
noncomputable def con_slices_Insert_api_Kid (N : Nat) : Con := conw_slices_Insert_api_Kid (W_slices_Insert_api_Kid N)
theorem con_slices_Insert_api_Kid_ok (N : Nat) : Con.ok P0 (con_slices_Insert_api_Kid N) := ⟨⟨Try.f34, Try.func34, by kernel_rfl, by kernel_rfl⟩, fun (x : Int × (List (Int × Int × Int)) × List (Int × Int × Int)) (r : List (Int × Int × Int)) (hr : W_slices_Insert_api_Kid N x = some r) => by
  obtain ⟨i, s, l⟩ := x
  exact ins_con (e := (.agg (.pair (.int .i64) (.pair (.int .i64) (.int .i64))))) (t := 24) (ty := 28) (bytes := 24) (nl := true) (l := l) (r := s) (q := r) (i := i) insN34 insP34 rfl (by decide) (by decide) (by decide) hr⟩
noncomputable def u_kids_Hear : Uf := ⟨9, 49, Try.f9, [.val (.list (.agg (.pair (.int .i64) (.pair (.int .i64) (.int .i64))))), .val (.agg (.pair (.int .i64) (.pair (.int .i64) (.int .i64))))], [],
⟨[(4, .val (.list (.agg (.pair (.int .i64) (.pair (.int .i64) (.int .i64)))))), (5, .val .bool)], []⟩, [],
[],
[(8, .cut [7] [(.normal, ⟨[(3, .ptr 600003 0), (6, .acc 700047)], [(600003, .box 28 (.val (.pair (.int .i64) (.pair (.int .i64) (.int .i64))))), (700047, .nrow 28 (.agg (.pair (.int .i64) (.pair (.int .i64) (.int .i64)))) false true)]⟩)])], fun y => (.tup [valW (.list (.agg (.pair (.int .i64) (.pair (.int .i64) (.int .i64))))) y.1, valW .bool y.2], [], [])⟩
noncomputable def V_kids_Hear (w_slices_Clone_api_Kid : List (Int × Int × Int) → Option (List (Int × Int × Int))) (w_kids_Old : (List (Int × Int × Int)) × Int × Int → Option (Bool)) (w_kids_seek : (List (Int × Int × Int)) × Int → Option ((Int × Int × Int × Int) ⊕ Int)) (w_slices_Insert_api_Kid : Int × (List (Int × Int × Int)) × List (Int × Int × Int) → Option (List (Int × Int × Int))) (N : Nat) (x : (List (Int × Int × Int)) × Int × Int × Int) : Option ((List (Int × Int × Int)) × Bool) :=
  obind (w_slices_Clone_api_Kid x.1) fun b => obind (w_kids_Old (x.1, x.2.1, x.2.2.1)) fun b_1 => cnd b_1 (some (b, false)) (obind (w_kids_seek
    (x.1, x.2.1)) fun b_2 => obind (selim (fun (b_3 : Int × Int × Int × Int) => cnd (decide ((0:Int) ≤ b_3.1) && decide (b_3.1 < (↑(List.length b) :
    Int))) (some (x.2, putL b [x.2] (Int.toNat b_3.1))) none) (fun (c : Int) => some (x.2, b)) b_2) fun (b : (Int × Int × Int) × List (Int × Int × Int))
    => selim (fun (b_3 : Int × Int × Int × Int) => some (b.2, true)) (fun (c : Int) => obind (w_slices_Insert_api_Kid (c, [b.1], b.2)) fun b => some
    (b, true)) b_2)
theorem q_kids_Hear : ∀ w_slices_Clone_api_Kid w_kids_Old w_kids_seek w_slices_Insert_api_Kid N x, u_kids_Hear.F L0 P0 (orcOf [conw_slices_Clone_api_Kid w_slices_Clone_api_Kid, u_kids_Old.con w_kids_Old, u_kids_seek.con w_kids_seek, conw_slices_Insert_api_Kid w_slices_Insert_api_Kid]) N x = V_kids_Hear w_slices_Clone_api_Kid w_kids_Old w_kids_seek w_slices_Insert_api_Kid N x := by intros; kernel_rfl
noncomputable def W_kids_Hear (N : Nat) := V_kids_Hear (W_slices_Clone_api_Kid N) (W_kids_Old N) (W_kids_seek N) (W_slices_Insert_api_Kid N) N
theorem con_kids_Hear_ok (N : Nat) : (u_kids_Hear.con (W_kids_Hear N)).ok P0 := Uf.ok mixed (q_kids_Hear (W_slices_Clone_api_Kid N) (W_kids_Old N) (W_kids_seek N) (W_slices_Insert_api_Kid N) N) ⟨con_slices_Clone_api_Kid_ok N, con_kids_Old_ok N, con_kids_seek_ok N, con_slices_Insert_api_Kid_ok N, trivial⟩ Try.func9 (by kernel_rfl) fun x y => by kernel_rfl
noncomputable def u_kids_Drop_1 : Uf := ⟨61, 8, Try.f61, [.val (.agg (.pair (.int .i64) (.pair (.int .i64) (.int .i64)))), .ptr 0 0], [.box 3 (.int .i64)],
⟨[(1, .ptr 1000000 0), (3, .val .bool)], [(1000000, .box 3 (.val (.int .i64)))]⟩, [true],
[],
[], fun y => (valW .bool y.1, [.box 3 (cellsW (.int .i64) y.2)], [])⟩
noncomputable def V_kids_Drop_1 (N : Nat) (x : (Int × Int × Int) × Int) : Option (Bool × Int) :=
  some (decide (x.1.1 = x.2), x.2)
theorem q_kids_Drop_1 : ∀ N x, u_kids_Drop_1.F L0 P0 (orcOf []) N x = V_kids_Drop_1 N x := by intros; kernel_rfl
noncomputable def W_kids_Drop_1 (N : Nat) := V_kids_Drop_1 N
theorem con_kids_Drop_1_ok (N : Nat) : (u_kids_Drop_1.con (W_kids_Drop_1 N)).ok P0 := Uf.ok mixed (q_kids_Drop_1 N) trivial Try.func61 (by kernel_rfl) fun x y => by kernel_rfl
noncomputable def u_slices_IndexFunc_api_Kid__kids_Drop_1 : Uf := ⟨64, 19, Try.f64, [.val (.list (.agg (.pair (.int .i64) (.pair (.int .i64) (.int .i64))))), .fn 61 [0]], [.box 3 (.int .i64)],
⟨[(1, .fn 61 [1000000]), (4, .val (.int .i64))], [(1000000, .box 3 (.val (.int .i64)))]⟩, [true],
[(2, .loop [] ⟨[(1, .fn 61 [1000000]), (8, .val (.int .i64))], [(1000000, .box 3 (.val (.int .i64)))]⟩ [(.exit 0, ⟨[(1, .fn 61 [1000000])], [(1000000, .box 3 (.val (.int .i64)))]⟩), (.ret, ⟨[(1, .fn 61 [1000000]), (4, .val (.int .i64))], [(1000000, .box 3 (.val (.int .i64)))]⟩)])],
[], fun y => (valW (.int .i64) y.1, [.box 3 (cellsW (.int .i64) y.2)], [])⟩
noncomputable def V_slices_IndexFunc_api_Kid__kids_Drop_1 (w_kids_Drop_1 : (Int × Int × Int) × Int → Option (Bool × Int)) (N : Nat) (x : (List (Int × Int × Int)) × Int) : Option (Int × Int) :=
  obind (loopN N (fun (v : Int × Int) => cnd (decide (v.1 < (↑(List.length x.1) : Int))) (cnd (decide ((0:Int) ≤ v.1) && decide (v.1 < (↑(List.length
    x.1) : Int))) (obind (w_kids_Drop_1 ((Prod.fst (List.getD x.1 (Int.toNat v.1) ((0:Int), (0:Int), (0:Int))), Prod.fst (Prod.snd (List.getD x.1
    (Int.toNat v.1) ((0:Int), (0:Int), (0:Int)))), Prod.snd (Prod.snd (List.getD x.1 (Int.toNat v.1) ((0:Int), (0:Int), (0:Int))))), v.2)) fun b => cnd
    b.1 (some (Sum.inr (Sum.inr (v.1, b.2)))) (some (Sum.inl (wr .i64 (v.1 + (1:Int)), b.2)))) none) (some (Sum.inr (Sum.inl v.2)))) ((0:Int), x.2)) fun
    (b : Int ⊕ Int × Int) => selim (fun (b : Int) => some ((-1 : Int), b)) (fun (c : Int × Int) => some c) b
theorem q_slices_IndexFunc_api_Kid__kids_Drop_1 : ∀ w_kids_Drop_1 N x, u_slices_IndexFunc_api_Kid__kids_Drop_1.F L0 P0 (orcOf [u_kids_Drop_1.con w_kids_Drop_1]) N x = V_slices_IndexFunc_api_Kid__kids_Drop_1 w_kids_Drop_1 N x := by intros; kernel_rfl
noncomputable def W_slices_IndexFunc_api_Kid__kids_Drop_1 (N : Nat) := V_slices_IndexFunc_api_Kid__kids_Drop_1 (W_kids_Drop_1 N) N
theorem con_slices_IndexFunc_api_Kid__kids_Drop_1_ok (N : Nat) : (u_slices_IndexFunc_api_Kid__kids_Drop_1.con (W_slices_IndexFunc_api_Kid__kids_Drop_1 N)).ok P0 := Uf.ok mixed (q_slices_IndexFunc_api_Kid__kids_Drop_1 (W_kids_Drop_1 N) N) ⟨con_kids_Drop_1_ok N, trivial⟩ Try.func64 (by kernel_rfl) fun x y => by kernel_rfl
noncomputable def u_slices_DeleteFunc_api_Kid__kids_Drop_1 : Uf := ⟨36, 42, Try.f36, [.acc 0, .fn 61 [1]], [.nrow 28 (.agg (.pair (.int .i64) (.pair (.int .i64) (.int .i64)))) true, .box 3 (.int .i64)],
⟨[(1, .fn 61 [1000001]), (4, .val (.list (.agg (.pair (.int .i64) (.pair (.int .i64) (.int .i64))))))], [(1000001, .box 3 (.val (.int .i64)))]⟩, [false, true],
[(5, .loop [] ⟨[(0, .acc 1000000), (1, .fn 61 [1000001]), (5, .val (.int .i64)), (6, .val (.int .i64))], [(1000000, .nrow 28 (.agg (.pair (.int .i64) (.pair (.int .i64) (.int .i64)))) false true), (1000001, .box 3 (.val (.int .i64)))]⟩ [(.exit 0, ⟨[(0, .acc 1000000), (1, .fn 61 [1000001]), (5, .val (.int .i64))], [(1000000, .nrow 28 (.agg (.pair (.int .i64) (.pair (.int .i64) (.int .i64)))) false true), (1000001, .box 3 (.val (.int .i64)))]⟩)])],
[], fun y => (valW (.list (.agg (.pair (.int .i64) (.pair (.int .i64) (.int .i64))))) y.1, [.dead, .box 3 (cellsW (.int .i64) y.2)], [])⟩
noncomputable def V_slices_DeleteFunc_api_Kid__kids_Drop_1 (w_slices_IndexFunc_api_Kid__kids_Drop_1 : (List (Int × Int × Int)) × Int → Option (Int × Int)) (w_kids_Drop_1 : (Int × Int × Int) × Int → Option (Bool × Int)) (N : Nat) (x : (List (Int × Int × Int)) × Int) : Option ((List (Int × Int × Int)) × Int) :=
  obind (w_slices_IndexFunc_api_Kid__kids_Drop_1 x) fun b => cnd (decide (b.1 = (-1 : Int))) (some (x.1, b.2)) (obind (loopN N (fun (v : Int × Int ×
    List (Int × Int × Int) × Int) => cnd (decide (v.2.1 < (↑(List.length v.2.2.1) : Int))) (cnd (decide ((0:Int) ≤ v.2.1) && decide (v.2.1 <
    (↑(List.length v.2.2.1) : Int))) (obind (w_kids_Drop_1 ((Prod.fst (List.getD v.2.2.1 (Int.toNat v.2.1) ((0:Int), (0:Int), (0:Int))), Prod.fst
    (Prod.snd (List.getD v.2.2.1 (Int.toNat v.2.1) ((0:Int), (0:Int), (0:Int)))), Prod.snd (Prod.snd (List.getD v.2.2.1 (Int.toNat v.2.1) ((0:Int),
    (0:Int), (0:Int))))), v.2.2.2)) fun b => cnd (!b.1) (cnd (decide ((0:Int) ≤ v.1) && decide (v.1 < (↑(List.length v.2.2.1) : Int))) (some (Sum.inl
    (wr .i64 (v.1 + (1:Int)), wr .i64 (v.2.1 + (1:Int)), putL v.2.2.1 [(Prod.fst (List.getD v.2.2.1 (Int.toNat v.2.1) ((0:Int), (0:Int), (0:Int))),
    Prod.fst (Prod.snd (List.getD v.2.2.1 (Int.toNat v.2.1) ((0:Int), (0:Int), (0:Int)))), Prod.snd (Prod.snd (List.getD v.2.2.1 (Int.toNat v.2.1)
    ((0:Int), (0:Int), (0:Int)))))] (Int.toNat v.1), b.2))) none) (some (Sum.inl (v.1, wr .i64 (v.2.1 + (1:Int)), v.2.2.1, b.2)))) none) (some (Sum.inr
    (v.1, v.2.2)))) (b.1, wr .i64 (b.1 + (1:Int)), x.1, b.2)) fun (b : Int × List (Int × Int × Int) × Int) => cnd (decide ((0:Int) ≤ Option.getD (some
    b.1) (0:Int))) (cnd (decide (Option.getD (some b.1) (0:Int) ≤ (↑(List.length b.2.1) : Int))) (cnd (decide (Option.getD none (0:Int) ≤ b.1)) (cnd
    (decide ((↑(0:Nat) : Int) + b.1 ≤ (↑(List.length (putL b.2.1 (List.replicate (Prod.snd (Prod.snd (cutT (0:Nat) (List.length b.2.1) (List.length
    b.2.1) (some b.1) none)) - Prod.fst (Prod.snd (cutT (0:Nat) (List.length b.2.1) (List.length b.2.1) (some b.1) none))) ((0:Int), (0:Int), (0:Int)))
    ((0:Nat) + Prod.fst (Prod.snd (cutT (0:Nat) (List.length b.2.1) (List.length b.2.1) (some b.1) none))))) : Int))) (some (List.drop ((0:Nat) +
    Prod.fst (Prod.snd (cutT (0:Nat) (List.length (putL b.2.1 (List.replicate (Prod.snd (Prod.snd (cutT (0:Nat) (List.length b.2.1) (List.length b.2.1)
    (some b.1) none)) - Prod.fst (Prod.snd (cutT (0:Nat) (List.length b.2.1) (List.length b.2.1) (some b.1) none))) ((0:Int), (0:Int), (0:Int)))
    ((0:Nat) + Prod.fst (Prod.snd (cutT (0:Nat) (List.length b.2.1) (List.length b.2.1) (some b.1) none))))) (List.length (putL b.2.1 (List.replicate
    (Prod.snd (Prod.snd (cutT (0:Nat) (List.length b.2.1) (List.length b.2.1) (some b.1) none)) - Prod.fst (Prod.snd (cutT (0:Nat) (List.length b.2.1)
    (List.length b.2.1) (some b.1) none))) ((0:Int), (0:Int), (0:Int))) ((0:Nat) + Prod.fst (Prod.snd (cutT (0:Nat) (List.length b.2.1) (List.length
    b.2.1) (some b.1) none))))) none (some b.1)))) (List.take ((0:Nat) + Prod.fst (Prod.snd (cutT (0:Nat) (List.length (putL b.2.1 (List.replicate
    (Prod.snd (Prod.snd (cutT (0:Nat) (List.length b.2.1) (List.length b.2.1) (some b.1) none)) - Prod.fst (Prod.snd (cutT (0:Nat) (List.length b.2.1)
    (List.length b.2.1) (some b.1) none))) ((0:Int), (0:Int), (0:Int))) ((0:Nat) + Prod.fst (Prod.snd (cutT (0:Nat) (List.length b.2.1) (List.length
    b.2.1) (some b.1) none))))) (List.length (putL b.2.1 (List.replicate (Prod.snd (Prod.snd (cutT (0:Nat) (List.length b.2.1) (List.length b.2.1) (some
    b.1) none)) - Prod.fst (Prod.snd (cutT (0:Nat) (List.length b.2.1) (List.length b.2.1) (some b.1) none))) ((0:Int), (0:Int), (0:Int))) ((0:Nat) +
    Prod.fst (Prod.snd (cutT (0:Nat) (List.length b.2.1) (List.length b.2.1) (some b.1) none))))) none (some b.1))) + (Prod.snd (Prod.snd (cutT (0:Nat)
    (List.length (putL b.2.1 (List.replicate (Prod.snd (Prod.snd (cutT (0:Nat) (List.length b.2.1) (List.length b.2.1) (some b.1) none)) - Prod.fst
    (Prod.snd (cutT (0:Nat) (List.length b.2.1) (List.length b.2.1) (some b.1) none))) ((0:Int), (0:Int), (0:Int))) ((0:Nat) + Prod.fst (Prod.snd (cutT
    (0:Nat) (List.length b.2.1) (List.length b.2.1) (some b.1) none))))) (List.length (putL b.2.1 (List.replicate (Prod.snd (Prod.snd (cutT (0:Nat)
    (List.length b.2.1) (List.length b.2.1) (some b.1) none)) - Prod.fst (Prod.snd (cutT (0:Nat) (List.length b.2.1) (List.length b.2.1) (some b.1)
    none))) ((0:Int), (0:Int), (0:Int))) ((0:Nat) + Prod.fst (Prod.snd (cutT (0:Nat) (List.length b.2.1) (List.length b.2.1) (some b.1) none))))) none
    (some b.1))) - Prod.fst (Prod.snd (cutT (0:Nat) (List.length (putL b.2.1 (List.replicate (Prod.snd (Prod.snd (cutT (0:Nat) (List.length b.2.1)
    (List.length b.2.1) (some b.1) none)) - Prod.fst (Prod.snd (cutT (0:Nat) (List.length b.2.1) (List.length b.2.1) (some b.1) none))) ((0:Int),
    (0:Int), (0:Int))) ((0:Nat) + Prod.fst (Prod.snd (cutT (0:Nat) (List.length b.2.1) (List.length b.2.1) (some b.1) none))))) (List.length (putL b.2.1
    (List.replicate (Prod.snd (Prod.snd (cutT (0:Nat) (List.length b.2.1) (List.length b.2.1) (some b.1) none)) - Prod.fst (Prod.snd (cutT (0:Nat)
    (List.length b.2.1) (List.length b.2.1) (some b.1) none))) ((0:Int), (0:Int), (0:Int))) ((0:Nat) + Prod.fst (Prod.snd (cutT (0:Nat) (List.length
    b.2.1) (List.length b.2.1) (some b.1) none))))) none (some b.1))))) (putL b.2.1 (List.replicate (Prod.snd (Prod.snd (cutT (0:Nat) (List.length
    b.2.1) (List.length b.2.1) (some b.1) none)) - Prod.fst (Prod.snd (cutT (0:Nat) (List.length b.2.1) (List.length b.2.1) (some b.1) none))) ((0:Int),
    (0:Int), (0:Int))) ((0:Nat) + Prod.fst (Prod.snd (cutT (0:Nat) (List.length b.2.1) (List.length b.2.1) (some b.1) none))))), b.2.2)) none) none)
    none) none)
theorem q_slices_DeleteFunc_api_Kid__kids_Drop_1 : ∀ w_slices_IndexFunc_api_Kid__kids_Drop_1 w_kids_Drop_1 N x, u_slices_DeleteFunc_api_Kid__kids_Drop_1.F L0 P0 (orcOf [u_slices_IndexFunc_api_Kid__kids_Drop_1.con w_slices_IndexFunc_api_Kid__kids_Drop_1, u_kids_Drop_1.con w_kids_Drop_1]) N x = V_slices_DeleteFunc_api_Kid__kids_Drop_1 w_slices_IndexFunc_api_Kid__kids_Drop_1 w_kids_Drop_1 N x := by intros; kernel_rfl
noncomputable def W_slices_DeleteFunc_api_Kid__kids_Drop_1 (N : Nat) := V_slices_DeleteFunc_api_Kid__kids_Drop_1 (W_slices_IndexFunc_api_Kid__kids_Drop_1 N) (W_kids_Drop_1 N) N
theorem con_slices_DeleteFunc_api_Kid__kids_Drop_1_ok (N : Nat) : (u_slices_DeleteFunc_api_Kid__kids_Drop_1.con (W_slices_DeleteFunc_api_Kid__kids_Drop_1 N)).ok P0 := Uf.ok mixed (q_slices_DeleteFunc_api_Kid__kids_Drop_1 (W_slices_IndexFunc_api_Kid__kids_Drop_1 N) (W_kids_Drop_1 N) N) ⟨con_slices_IndexFunc_api_Kid__kids_Drop_1_ok N, con_kids_Drop_1_ok N, trivial⟩ Try.func36 (by kernel_rfl) fun x y => by kernel_rfl
noncomputable def u_kids_Drop : Uf := ⟨31, 9, Try.f31, [.val (.list (.agg (.pair (.int .i64) (.pair (.int .i64) (.int .i64))))), .val (.int .i64)], [],
⟨[(4, .val (.list (.agg (.pair (.int .i64) (.pair (.int .i64) (.int .i64))))))], []⟩, [],
[],
[], fun y => (valW (.list (.agg (.pair (.int .i64) (.pair (.int .i64) (.int .i64))))) y, [], [])⟩
noncomputable def V_kids_Drop (w_slices_Clone_api_Kid : List (Int × Int × Int) → Option (List (Int × Int × Int))) (w_slices_DeleteFunc_api_Kid__kids_Drop_1 : (List (Int × Int × Int)) × Int → Option ((List (Int × Int × Int)) × Int)) (N : Nat) (x : (List (Int × Int × Int)) × Int) : Option (List (Int × Int × Int)) :=
  obind (w_slices_Clone_api_Kid x.1) fun b => obind (w_slices_DeleteFunc_api_Kid__kids_Drop_1 (b, x.2)) fun b => some b.1
theorem q_kids_Drop : ∀ w_slices_Clone_api_Kid w_slices_DeleteFunc_api_Kid__kids_Drop_1 N x, u_kids_Drop.F L0 P0 (orcOf [conw_slices_Clone_api_Kid w_slices_Clone_api_Kid, u_slices_DeleteFunc_api_Kid__kids_Drop_1.con w_slices_DeleteFunc_api_Kid__kids_Drop_1]) N x = V_kids_Drop w_slices_Clone_api_Kid w_slices_DeleteFunc_api_Kid__kids_Drop_1 N x := by intros; kernel_rfl
noncomputable def W_kids_Drop (N : Nat) := V_kids_Drop (W_slices_Clone_api_Kid N) (W_slices_DeleteFunc_api_Kid__kids_Drop_1 N) N
theorem con_kids_Drop_ok (N : Nat) : (u_kids_Drop.con (W_kids_Drop N)).ok P0 := Uf.ok mixed (q_kids_Drop (W_slices_Clone_api_Kid N) (W_slices_DeleteFunc_api_Kid__kids_Drop_1 N) N) ⟨con_slices_Clone_api_Kid_ok N, con_slices_DeleteFunc_api_Kid__kids_Drop_1_ok N, trivial⟩ Try.func31 (by kernel_rfl) fun x y => by kernel_rfl
noncomputable def u_kids_Prune_1 : Uf := ⟨37, 9, Try.f37, [.val (.agg (.pair (.int .i64) (.pair (.int .i64) (.int .i64)))), .ptr 0 0], [.box 3 (.int .i64)],
⟨[(1, .ptr 1000000 0), (3, .val .bool)], [(1000000, .box 3 (.val (.int .i64)))]⟩, [true],
[],
[], fun y => (valW .bool y.1, [.box 3 (cellsW (.int .i64) y.2)], [])⟩
noncomputable def V_kids_Prune_1 (N : Nat) (x : (Int × Int × Int) × Int) : Option (Bool × Int) :=
  some (decide (x.1.2.2 < wr .i64 (x.2 - (20:Int))), x.2)
theorem q_kids_Prune_1 : ∀ N x, u_kids_Prune_1.F L0 P0 (orcOf []) N x = V_kids_Prune_1 N x := by intros; kernel_rfl
noncomputable def W_kids_Prune_1 (N : Nat) := V_kids_Prune_1 N
theorem con_kids_Prune_1_ok (N : Nat) : (u_kids_Prune_1.con (W_kids_Prune_1 N)).ok P0 := Uf.ok mixed (q_kids_Prune_1 N) trivial Try.func37 (by kernel_rfl) fun x y => by kernel_rfl
noncomputable def u_slices_IndexFunc_api_Kid__kids_Prune_1 : Uf := ⟨64, 19, Try.f64, [.val (.list (.agg (.pair (.int .i64) (.pair (.int .i64) (.int .i64))))), .fn 37 [0]], [.box 3 (.int .i64)],
⟨[(1, .fn 37 [1000000]), (4, .val (.int .i64))], [(1000000, .box 3 (.val (.int .i64)))]⟩, [true],
[(2, .loop [] ⟨[(1, .fn 37 [1000000]), (8, .val (.int .i64))], [(1000000, .box 3 (.val (.int .i64)))]⟩ [(.exit 0, ⟨[(1, .fn 37 [1000000])], [(1000000, .box 3 (.val (.int .i64)))]⟩), (.ret, ⟨[(1, .fn 37 [1000000]), (4, .val (.int .i64))], [(1000000, .box 3 (.val (.int .i64)))]⟩)])],
[], fun y => (valW (.int .i64) y.1, [.box 3 (cellsW (.int .i64) y.2)], [])⟩
noncomputable def V_slices_IndexFunc_api_Kid__kids_Prune_1 (w_kids_Prune_1 : (Int × Int × Int) × Int → Option (Bool × Int)) (N : Nat) (x : (List (Int × Int × Int)) × Int) : Option (Int × Int) :=
  obind (loopN N (fun (v : Int × Int) => cnd (decide (v.1 < (↑(List.length x.1) : Int))) (cnd (decide ((0:Int) ≤ v.1) && decide (v.1 < (↑(List.length
    x.1) : Int))) (obind (w_kids_Prune_1 ((Prod.fst (List.getD x.1 (Int.toNat v.1) ((0:Int), (0:Int), (0:Int))), Prod.fst (Prod.snd (List.getD x.1
    (Int.toNat v.1) ((0:Int), (0:Int), (0:Int)))), Prod.snd (Prod.snd (List.getD x.1 (Int.toNat v.1) ((0:Int), (0:Int), (0:Int))))), v.2)) fun b => cnd
    b.1 (some (Sum.inr (Sum.inr (v.1, b.2)))) (some (Sum.inl (wr .i64 (v.1 + (1:Int)), b.2)))) none) (some (Sum.inr (Sum.inl v.2)))) ((0:Int), x.2)) fun
    (b : Int ⊕ Int × Int) => selim (fun (b : Int) => some ((-1 : Int), b)) (fun (c : Int × Int) => some c) b
theorem q_slices_IndexFunc_api_Kid__kids_Prune_1 : ∀ w_kids_Prune_1 N x, u_slices_IndexFunc_api_Kid__kids_Prune_1.F L0 P0 (orcOf [u_kids_Prune_1.con w_kids_Prune_1]) N x = V_slices_IndexFunc_api_Kid__kids_Prune_1 w_kids_Prune_1 N x := by intros; kernel_rfl
noncomputable def W_slices_IndexFunc_api_Kid__kids_Prune_1 (N : Nat) := V_slices_IndexFunc_api_Kid__kids_Prune_1 (W_kids_Prune_1 N) N
theorem con_slices_IndexFunc_api_Kid__kids_Prune_1_ok (N : Nat) : (u_slices_IndexFunc_api_Kid__kids_Prune_1.con (W_slices_IndexFunc_api_Kid__kids_Prune_1 N)).ok P0 := Uf.ok mixed (q_slices_IndexFunc_api_Kid__kids_Prune_1 (W_kids_Prune_1 N) N) ⟨con_kids_Prune_1_ok N, trivial⟩ Try.func64 (by kernel_rfl) fun x y => by kernel_rfl
noncomputable def u_slices_DeleteFunc_api_Kid__kids_Prune_1 : Uf := ⟨36, 42, Try.f36, [.acc 0, .fn 37 [1]], [.nrow 28 (.agg (.pair (.int .i64) (.pair (.int .i64) (.int .i64)))) true, .box 3 (.int .i64)],
⟨[(1, .fn 37 [1000001]), (4, .val (.list (.agg (.pair (.int .i64) (.pair (.int .i64) (.int .i64))))))], [(1000001, .box 3 (.val (.int .i64)))]⟩, [false, true],
[(5, .loop [] ⟨[(0, .acc 1000000), (1, .fn 37 [1000001]), (5, .val (.int .i64)), (6, .val (.int .i64))], [(1000000, .nrow 28 (.agg (.pair (.int .i64) (.pair (.int .i64) (.int .i64)))) false true), (1000001, .box 3 (.val (.int .i64)))]⟩ [(.exit 0, ⟨[(0, .acc 1000000), (1, .fn 37 [1000001]), (5, .val (.int .i64))], [(1000000, .nrow 28 (.agg (.pair (.int .i64) (.pair (.int .i64) (.int .i64)))) false true), (1000001, .box 3 (.val (.int .i64)))]⟩)])],
[], fun y => (valW (.list (.agg (.pair (.int .i64) (.pair (.int .i64) (.int .i64))))) y.1, [.dead, .box 3 (cellsW (.int .i64) y.2)], [])⟩
noncomputable def V_slices_DeleteFunc_api_Kid__kids_Prune_1 (w_slices_IndexFunc_api_Kid__kids_Prune_1 : (List (Int × Int × Int)) × Int → Option (Int × Int)) (w_kids_Prune_1 : (Int × Int × Int) × Int → Option (Bool × Int)) (N : Nat) (x : (List (Int × Int × Int)) × Int) : Option ((List (Int × Int × Int)) × Int) :=
  obind (w_slices_IndexFunc_api_Kid__kids_Prune_1 x) fun b => cnd (decide (b.1 = (-1 : Int))) (some (x.1, b.2)) (obind (loopN N (fun (v : Int × Int ×
    List (Int × Int × Int) × Int) => cnd (decide (v.2.1 < (↑(List.length v.2.2.1) : Int))) (cnd (decide ((0:Int) ≤ v.2.1) && decide (v.2.1 <
    (↑(List.length v.2.2.1) : Int))) (obind (w_kids_Prune_1 ((Prod.fst (List.getD v.2.2.1 (Int.toNat v.2.1) ((0:Int), (0:Int), (0:Int))), Prod.fst
    (Prod.snd (List.getD v.2.2.1 (Int.toNat v.2.1) ((0:Int), (0:Int), (0:Int)))), Prod.snd (Prod.snd (List.getD v.2.2.1 (Int.toNat v.2.1) ((0:Int),
    (0:Int), (0:Int))))), v.2.2.2)) fun b => cnd (!b.1) (cnd (decide ((0:Int) ≤ v.1) && decide (v.1 < (↑(List.length v.2.2.1) : Int))) (some (Sum.inl
    (wr .i64 (v.1 + (1:Int)), wr .i64 (v.2.1 + (1:Int)), putL v.2.2.1 [(Prod.fst (List.getD v.2.2.1 (Int.toNat v.2.1) ((0:Int), (0:Int), (0:Int))),
    Prod.fst (Prod.snd (List.getD v.2.2.1 (Int.toNat v.2.1) ((0:Int), (0:Int), (0:Int)))), Prod.snd (Prod.snd (List.getD v.2.2.1 (Int.toNat v.2.1)
    ((0:Int), (0:Int), (0:Int)))))] (Int.toNat v.1), b.2))) none) (some (Sum.inl (v.1, wr .i64 (v.2.1 + (1:Int)), v.2.2.1, b.2)))) none) (some (Sum.inr
    (v.1, v.2.2)))) (b.1, wr .i64 (b.1 + (1:Int)), x.1, b.2)) fun (b : Int × List (Int × Int × Int) × Int) => cnd (decide ((0:Int) ≤ Option.getD (some
    b.1) (0:Int))) (cnd (decide (Option.getD (some b.1) (0:Int) ≤ (↑(List.length b.2.1) : Int))) (cnd (decide (Option.getD none (0:Int) ≤ b.1)) (cnd
    (decide ((↑(0:Nat) : Int) + b.1 ≤ (↑(List.length (putL b.2.1 (List.replicate (Prod.snd (Prod.snd (cutT (0:Nat) (List.length b.2.1) (List.length
    b.2.1) (some b.1) none)) - Prod.fst (Prod.snd (cutT (0:Nat) (List.length b.2.1) (List.length b.2.1) (some b.1) none))) ((0:Int), (0:Int), (0:Int)))
    ((0:Nat) + Prod.fst (Prod.snd (cutT (0:Nat) (List.length b.2.1) (List.length b.2.1) (some b.1) none))))) : Int))) (some (List.drop ((0:Nat) +
    Prod.fst (Prod.snd (cutT (0:Nat) (List.length (putL b.2.1 (List.replicate (Prod.snd (Prod.snd (cutT (0:Nat) (List.length b.2.1) (List.length b.2.1)
    (some b.1) none)) - Prod.fst (Prod.snd (cutT (0:Nat) (List.length b.2.1) (List.length b.2.1) (some b.1) none))) ((0:Int), (0:Int), (0:Int)))
    ((0:Nat) + Prod.fst (Prod.snd (cutT (0:Nat) (List.length b.2.1) (List.length b.2.1) (some b.1) none))))) (List.length (putL b.2.1 (List.replicate
    (Prod.snd (Prod.snd (cutT (0:Nat) (List.length b.2.1) (List.length b.2.1) (some b.1) none)) - Prod.fst (Prod.snd (cutT (0:Nat) (List.length b.2.1)
    (List.length b.2.1) (some b.1) none))) ((0:Int), (0:Int), (0:Int))) ((0:Nat) + Prod.fst (Prod.snd (cutT (0:Nat) (List.length b.2.1) (List.length
    b.2.1) (some b.1) none))))) none (some b.1)))) (List.take ((0:Nat) + Prod.fst (Prod.snd (cutT (0:Nat) (List.length (putL b.2.1 (List.replicate
    (Prod.snd (Prod.snd (cutT (0:Nat) (List.length b.2.1) (List.length b.2.1) (some b.1) none)) - Prod.fst (Prod.snd (cutT (0:Nat) (List.length b.2.1)
    (List.length b.2.1) (some b.1) none))) ((0:Int), (0:Int), (0:Int))) ((0:Nat) + Prod.fst (Prod.snd (cutT (0:Nat) (List.length b.2.1) (List.length
    b.2.1) (some b.1) none))))) (List.length (putL b.2.1 (List.replicate (Prod.snd (Prod.snd (cutT (0:Nat) (List.length b.2.1) (List.length b.2.1) (some
    b.1) none)) - Prod.fst (Prod.snd (cutT (0:Nat) (List.length b.2.1) (List.length b.2.1) (some b.1) none))) ((0:Int), (0:Int), (0:Int))) ((0:Nat) +
    Prod.fst (Prod.snd (cutT (0:Nat) (List.length b.2.1) (List.length b.2.1) (some b.1) none))))) none (some b.1))) + (Prod.snd (Prod.snd (cutT (0:Nat)
    (List.length (putL b.2.1 (List.replicate (Prod.snd (Prod.snd (cutT (0:Nat) (List.length b.2.1) (List.length b.2.1) (some b.1) none)) - Prod.fst
    (Prod.snd (cutT (0:Nat) (List.length b.2.1) (List.length b.2.1) (some b.1) none))) ((0:Int), (0:Int), (0:Int))) ((0:Nat) + Prod.fst (Prod.snd (cutT
    (0:Nat) (List.length b.2.1) (List.length b.2.1) (some b.1) none))))) (List.length (putL b.2.1 (List.replicate (Prod.snd (Prod.snd (cutT (0:Nat)
    (List.length b.2.1) (List.length b.2.1) (some b.1) none)) - Prod.fst (Prod.snd (cutT (0:Nat) (List.length b.2.1) (List.length b.2.1) (some b.1)
    none))) ((0:Int), (0:Int), (0:Int))) ((0:Nat) + Prod.fst (Prod.snd (cutT (0:Nat) (List.length b.2.1) (List.length b.2.1) (some b.1) none))))) none
    (some b.1))) - Prod.fst (Prod.snd (cutT (0:Nat) (List.length (putL b.2.1 (List.replicate (Prod.snd (Prod.snd (cutT (0:Nat) (List.length b.2.1)
    (List.length b.2.1) (some b.1) none)) - Prod.fst (Prod.snd (cutT (0:Nat) (List.length b.2.1) (List.length b.2.1) (some b.1) none))) ((0:Int),
    (0:Int), (0:Int))) ((0:Nat) + Prod.fst (Prod.snd (cutT (0:Nat) (List.length b.2.1) (List.length b.2.1) (some b.1) none))))) (List.length (putL b.2.1
    (List.replicate (Prod.snd (Prod.snd (cutT (0:Nat) (List.length b.2.1) (List.length b.2.1) (some b.1) none)) - Prod.fst (Prod.snd (cutT (0:Nat)
    (List.length b.2.1) (List.length b.2.1) (some b.1) none))) ((0:Int), (0:Int), (0:Int))) ((0:Nat) + Prod.fst (Prod.snd (cutT (0:Nat) (List.length
    b.2.1) (List.length b.2.1) (some b.1) none))))) none (some b.1))))) (putL b.2.1 (List.replicate (Prod.snd (Prod.snd (cutT (0:Nat) (List.length
    b.2.1) (List.length b.2.1) (some b.1) none)) - Prod.fst (Prod.snd (cutT (0:Nat) (List.length b.2.1) (List.length b.2.1) (some b.1) none))) ((0:Int),
    (0:Int), (0:Int))) ((0:Nat) + Prod.fst (Prod.snd (cutT (0:Nat) (List.length b.2.1) (List.length b.2.1) (some b.1) none))))), b.2.2)) none) none)
    none) none)
theorem q_slices_DeleteFunc_api_Kid__kids_Prune_1 : ∀ w_slices_IndexFunc_api_Kid__kids_Prune_1 w_kids_Prune_1 N x, u_slices_DeleteFunc_api_Kid__kids_Prune_1.F L0 P0 (orcOf [u_slices_IndexFunc_api_Kid__kids_Prune_1.con w_slices_IndexFunc_api_Kid__kids_Prune_1, u_kids_Prune_1.con w_kids_Prune_1]) N x = V_slices_DeleteFunc_api_Kid__kids_Prune_1 w_slices_IndexFunc_api_Kid__kids_Prune_1 w_kids_Prune_1 N x := by intros; kernel_rfl
noncomputable def W_slices_DeleteFunc_api_Kid__kids_Prune_1 (N : Nat) := V_slices_DeleteFunc_api_Kid__kids_Prune_1 (W_slices_IndexFunc_api_Kid__kids_Prune_1 N) (W_kids_Prune_1 N) N
theorem con_slices_DeleteFunc_api_Kid__kids_Prune_1_ok (N : Nat) : (u_slices_DeleteFunc_api_Kid__kids_Prune_1.con (W_slices_DeleteFunc_api_Kid__kids_Prune_1 N)).ok P0 := Uf.ok mixed (q_slices_DeleteFunc_api_Kid__kids_Prune_1 (W_slices_IndexFunc_api_Kid__kids_Prune_1 N) (W_kids_Prune_1 N) N) ⟨con_slices_IndexFunc_api_Kid__kids_Prune_1_ok N, con_kids_Prune_1_ok N, trivial⟩ Try.func36 (by kernel_rfl) fun x y => by kernel_rfl
noncomputable def u_kids_Prune : Uf := ⟨11, 9, Try.f11, [.val (.list (.agg (.pair (.int .i64) (.pair (.int .i64) (.int .i64))))), .val (.int .i64)], [],
⟨[(4, .val (.list (.agg (.pair (.int .i64) (.pair (.int .i64) (.int .i64))))))], []⟩, [],
[],
[], fun y => (valW (.list (.agg (.pair (.int .i64) (.pair (.int .i64) (.int .i64))))) y, [], [])⟩
noncomputable def V_kids_Prune (w_slices_Clone_api_Kid : List (Int × Int × Int) → Option (List (Int × Int × Int))) (w_slices_DeleteFunc_api_Kid__kids_Prune_1 : (List (Int × Int × Int)) × Int → Option ((List (Int × Int × Int)) × Int)) (N : Nat) (x : (List (Int × Int × Int)) × Int) : Option (List (Int × Int × Int)) :=
  obind (w_slices_Clone_api_Kid x.1) fun b => obind (w_slices_DeleteFunc_api_Kid__kids_Prune_1 (b, x.2)) fun b => some b.1
theorem q_kids_Prune : ∀ w_slices_Clone_api_Kid w_slices_DeleteFunc_api_Kid__kids_Prune_1 N x, u_kids_Prune.F L0 P0 (orcOf [conw_slices_Clone_api_Kid w_slices_Clone_api_Kid, u_slices_DeleteFunc_api_Kid__kids_Prune_1.con w_slices_DeleteFunc_api_Kid__kids_Prune_1]) N x = V_kids_Prune w_slices_Clone_api_Kid w_slices_DeleteFunc_api_Kid__kids_Prune_1 N x := by intros; kernel_rfl
noncomputable def W_kids_Prune (N : Nat) := V_kids_Prune (W_slices_Clone_api_Kid N) (W_slices_DeleteFunc_api_Kid__kids_Prune_1 N) N
theorem con_kids_Prune_ok (N : Nat) : (u_kids_Prune.con (W_kids_Prune N)).ok P0 := Uf.ok mixed (q_kids_Prune (W_slices_Clone_api_Kid N) (W_slices_DeleteFunc_api_Kid__kids_Prune_1 N) N) ⟨con_slices_Clone_api_Kid_ok N, con_slices_DeleteFunc_api_Kid__kids_Prune_1_ok N, trivial⟩ Try.func11 (by kernel_rfl) fun x y => by kernel_rfl
noncomputable def u_kids_may : Uf := ⟨35, 31, Try.f35, [.val (.agg (.pair (.int .i64) (.pair (.int .i64) (.int .i64))))], [],
⟨[(2, .val .bool)], []⟩, [],
[],
[(1000001, .reg [(8, [], ⟨[(1, .ptr 600001 0), (10, .val .bool)], [(600001, .box 28 (.val (.pair (.int .i64) (.pair (.int .i64) (.int .i64)))))]⟩), (5, [], ⟨[(1, .ptr 600001 0), (15, .val .bool)], [(600001, .box 28 (.val (.pair (.int .i64) (.pair (.int .i64) (.int .i64)))))]⟩), (5, [], ⟨[(1, .ptr 600001 0), (20, .val .bool)], [(600001, .box 28 (.val (.pair (.int .i64) (.pair (.int .i64) (.int .i64)))))]⟩), (5, [], ⟨[(1, .ptr 600001 0), (25, .val .bool)], [(600001, .box 28 (.val (.pair (.int .i64) (.pair (.int .i64) (.int .i64)))))]⟩)])], fun y => (valW .bool y, [], [])⟩
noncomputable def V_kids_may (N : Nat) (x : Int × Int × Int) : Option (Bool) :=
  obind (cnd (decide ((1:Int) ≤ x.1)) (some (decide (x.1 ≤ (8:Int)), x)) (some (false, x))) fun (b : Bool × Int × Int × Int) => obind (cnd b.1 (some
    (decide ((1:Int) ≤ b.2.2.1), b.2)) (some (false, b.2))) fun (b : Bool × Int × Int × Int) => obind (cnd b.1 (some (decide (b.2.2.1 ≤
    (1073741824:Int)), b.2)) (some (false, b.2))) fun (b : Bool × Int × Int × Int) => obind (cnd b.1 (some (decide ((0:Int) ≤ b.2.2.2), b.2)) (some
    (false, b.2))) fun (b : Bool × Int × Int × Int) => cnd b.1 (some (decide (b.2.2.2 ≤ (1073741824:Int)))) (some false)
theorem q_kids_may : ∀ N x, u_kids_may.F L0 P0 (orcOf []) N x = V_kids_may N x := by intros; kernel_rfl
noncomputable def W_kids_may (N : Nat) := V_kids_may N
theorem con_kids_may_ok (N : Nat) : (u_kids_may.con (W_kids_may N)).ok P0 := Uf.ok mixed (q_kids_may N) trivial Try.func35 (by kernel_rfl) fun x y => by kernel_rfl
noncomputable def u_kids_May : Uf := ⟨10, 24, Try.f10, [.val (.list (.agg (.pair (.int .i64) (.pair (.int .i64) (.int .i64)))))], [],
⟨[(2, .val .bool)], []⟩, [],
[(3, .loop [6] ⟨[(3, .val (.int .i64)), (8, .val (.int .i64))], []⟩ [(.exit 0, ⟨[], []⟩), (.ret, ⟨[(2, .val .bool)], []⟩)])],
[], fun y => (valW .bool y, [], [])⟩
noncomputable def V_kids_May (w_kids_may : Int × Int × Int → Option (Bool)) (N : Nat) (x : List (Int × Int × Int)) : Option (Bool) :=
  obind (loopN N (fun (v : Int × Int) => cnd (decide (v.2 < (↑(List.length x) : Int))) (cnd (decide ((0:Int) ≤ v.2) && decide (v.2 < (↑(List.length x) :
    Int))) (obind (w_kids_may (Prod.fst (List.getD x (Int.toNat v.2) ((0:Int), (0:Int), (0:Int))), Prod.fst (Prod.snd (List.getD x (Int.toNat v.2)
    ((0:Int), (0:Int), (0:Int)))), Prod.snd (Prod.snd (List.getD x (Int.toNat v.2) ((0:Int), (0:Int), (0:Int)))))) fun b => cnd (!b) (some (Sum.inr
    (Sum.inr false))) (cnd (decide (Prod.fst (List.getD x (Int.toNat v.2) ((0:Int), (0:Int), (0:Int))) ≤ v.1)) (some (Sum.inr (Sum.inr false))) (some
    (Sum.inl (Prod.fst (List.getD x (Int.toNat v.2) ((0:Int), (0:Int), (0:Int))), wr .i64 (v.2 + (1:Int))))))) none) (some (Sum.inr (Sum.inl ()))))
    ((0:Int), (0:Int))) fun (b : PUnit ⊕ Bool) => selim (fun (b : PUnit) => some true) (fun (c : Bool) => some c) b
theorem q_kids_May : ∀ w_kids_may N x, u_kids_May.F L0 P0 (orcOf [u_kids_may.con w_kids_may]) N x = V_kids_May w_kids_may N x := by intros; kernel_rfl
noncomputable def W_kids_May (N : Nat) := V_kids_May (W_kids_may N) N
theorem con_kids_May_ok (N : Nat) : (u_kids_May.con (W_kids_May N)).ok P0 := Uf.ok mixed (q_kids_May (W_kids_may N) N) ⟨con_kids_may_ok N, trivial⟩ Try.func10 (by kernel_rfl) fun x y => by kernel_rfl
noncomputable def u_law6_begun : Uf := ⟨8, 78, Try.f8, [], [],
⟨[(0, .val .bool)], []⟩, [],
[],
[(1000004, .reg [(6, [1], ⟨[(5, .ptr 600005 0), (28, .val .bool)], [(600005, .box 28 (.val (.pair (.int .i64) (.pair (.int .i64) (.int .i64)))))]⟩), (4, [1], ⟨[(5, .ptr 600005 0), (32, .val .bool)], [(600005, .box 28 (.val (.pair (.int .i64) (.pair (.int .i64) (.int .i64)))))]⟩), (5, [1], ⟨[(37, .val .bool)], []⟩), (3, [1], ⟨[(40, .val .bool)], []⟩), (4, [1], ⟨[(44, .val .bool)], []⟩), (5, [1], ⟨[(49, .val .bool)], []⟩), (6, [1], ⟨[(55, .val .bool)], []⟩), (6, [1], ⟨[(61, .val .bool)], []⟩), (6, [1], ⟨[(67, .val .bool)], []⟩), (4, [], ⟨[(71, .val .bool)], []⟩)])], fun y => (valW .bool y, [], [])⟩
noncomputable def V_law6_begun (w_kids_Hear : (List (Int × Int × Int)) × Int × Int × Int → Option ((List (Int × Int × Int)) × Bool)) (w_kids_Find : (List (Int × Int × Int)) × Int → Option (Bool × Int × Int × Int)) (w_kids_Old : (List (Int × Int × Int)) × Int × Int → Option (Bool)) (w_kids_Drop : (List (Int × Int × Int)) × Int → Option (List (Int × Int × Int))) (w_kids_Prune : (List (Int × Int × Int)) × Int → Option (List (Int × Int × Int))) (w_kids_May : List (Int × Int × Int) → Option (Bool)) (N : Nat) (x : Unit) : Option (Bool) :=
  obind (w_kids_Hear ([], (3:Int), (2:Int), (1:Int))) fun b => obind (w_kids_Hear (b.1, (3:Int), (1:Int), (9:Int))) fun b_1 => obind (w_kids_Find
    (b.1, (3:Int))) fun b_2 => obind (cnd b.2 (some (decide ((↑(List.length b.1) : Int) = (1:Int)), b_2.2)) (some (false, b_2.2))) fun (b_3 : Bool × Int
    × Int × Int) => obind (cnd b_3.1 (some (!b_1.2, b_3.2)) (some (false, b_3.2))) fun (b_4 : Bool × Int × Int × Int) => obind (cnd b_4.1 (some (decide
    (b_4.2.2.1 = (2:Int)))) (some false)) fun (b_5 : Bool) => obind (cnd b_5 (some b_2.1) (some false)) fun (b_6 : Bool) => obind (cnd b_6 (obind
    (w_kids_Old (b.1, (3:Int), (1:Int))) fun b => some b) (some false)) fun (b_7 : Bool) => obind (cnd b_7 (obind (w_kids_Old (b.1, (3:Int),
    (2:Int))) fun b => some !b) (some false)) fun (b_8 : Bool) => obind (cnd b_8 (obind (w_kids_Drop (b.1, (3:Int))) fun b => some (decide
    ((↑(List.length b) : Int) = (0:Int)))) (some false)) fun (b_9 : Bool) => obind (cnd b_9 (obind (w_kids_Prune (b.1, (22:Int))) fun b => some
    (decide ((↑(List.length b) : Int) = (0:Int)))) (some false)) fun (b_10 : Bool) => obind (cnd b_10 (obind (w_kids_Prune (b.1, (21:Int))) fun b =>
    some (decide ((↑(List.length b) : Int) = (1:Int)))) (some false)) fun (b_11 : Bool) => obind (cnd b_11 (obind (w_kids_May b.1) fun b => some b)
    (some false)) fun (b : Bool) => cnd b (obind (w_kids_May [((0:Int), (0:Int), (0:Int))]) fun b => some !b) (some false)
theorem q_law6_begun : ∀ w_kids_Hear w_kids_Find w_kids_Old w_kids_Drop w_kids_Prune w_kids_May N x, u_law6_begun.F L0 P0 (orcOf [u_kids_Hear.con w_kids_Hear, u_kids_Find.con w_kids_Find, u_kids_Old.con w_kids_Old, u_kids_Drop.con w_kids_Drop, u_kids_Prune.con w_kids_Prune, u_kids_May.con w_kids_May]) N x = V_law6_begun w_kids_Hear w_kids_Find w_kids_Old w_kids_Drop w_kids_Prune w_kids_May N x := by intros; kernel_rfl
noncomputable def W_law6_begun (N : Nat) := V_law6_begun (W_kids_Hear N) (W_kids_Find N) (W_kids_Old N) (W_kids_Drop N) (W_kids_Prune N) (W_kids_May N) N
theorem con_law6_begun_ok (N : Nat) : (u_law6_begun.con (W_law6_begun N)).ok P0 := Uf.ok mixed (q_law6_begun (W_kids_Hear N) (W_kids_Find N) (W_kids_Old N) (W_kids_Drop N) (W_kids_Prune N) (W_kids_May N) N) ⟨con_kids_Hear_ok N, con_kids_Find_ok N, con_kids_Old_ok N, con_kids_Drop_ok N, con_kids_Prune_ok N, con_kids_May_ok N, trivial⟩ Try.func8 (by kernel_rfl) fun x y => by kernel_rfl
noncomputable def u_law6_KidsHeard : Uf := ⟨3, 149, Try.f3, [.val (.list (.agg (.pair (.int .u8) (.pair (.int .u8) (.int .u8))))), .val (.int .u8)], [],
⟨[(4, .val .bool)], []⟩, [],
[(8, .loop [] ⟨[(5, .val (.list (.agg (.pair (.int .i64) (.pair (.int .i64) (.int .i64)))))), (6, .mp 800026), (7, .val (.int .i64))], [(800026, .mp (.agg (.pair (.int .i64) (.pair (.int .i64) (.int .i64)))))]⟩ [(.exit 0, ⟨[(5, .val (.list (.agg (.pair (.int .i64) (.pair (.int .i64) (.int .i64)))))), (6, .mp 800026)], [(800026, .mp (.agg (.pair (.int .i64) (.pair (.int .i64) (.int .i64)))))]⟩), (.ret, ⟨[(4, .val .bool)], []⟩)]),
(22, .loop [5, 13] ⟨[(6, .mp 800026), (14, .val (.int .i64))], [(800026, .mp (.agg (.pair (.int .i64) (.pair (.int .i64) (.int .i64)))))]⟩ [(.exit 2, ⟨[], []⟩), (.ret, ⟨[(4, .val .bool)], []⟩)])],
[(1000027, .reg [(11, [5, 13], ⟨[(6, .mp 800026), (15, .ptr 600015 0), (133, .val .bool)], [(800026, .mp (.agg (.pair (.int .i64) (.pair (.int .i64) (.int .i64))))), (600015, .box 28 (.val (.pair (.int .i64) (.pair (.int .i64) (.int .i64)))))]⟩)])], fun y => (valW .bool y, [], [])⟩
noncomputable def V_law6_KidsHeard (w_law6_begun : Unit → Option (Bool)) (w_kids_Hear : (List (Int × Int × Int)) × Int × Int × Int → Option ((List (Int × Int × Int)) × Bool)) (w_kids_May : List (Int × Int × Int) → Option (Bool)) (w_kids_Prune : (List (Int × Int × Int)) × Int → Option (List (Int × Int × Int))) (w_kids_Find : (List (Int × Int × Int)) × Int → Option (Bool × Int × Int × Int)) (N : Nat) (x : (List (Int × Int × Int)) × Int) : Option (Bool) :=
  obind (w_law6_begun ()) fun b => cnd (!b) (some false) (cnd (decide ((20:Int) < (↑(List.length x.1) : Int))) (some true) (obind (loopN N (fun (v :
    List (Int × Int × Int) × Int × List (Int × Int × Int × Int)) => cnd (decide (v.2.1 < (↑(List.length x.1) : Int))) (cnd (decide ((0:Int) ≤ v.2.1) &&
    decide (v.2.1 < (↑(List.length x.1) : Int))) (cnd (decide ((0:Int) ≤ v.2.1) && decide (v.2.1 < (↑(List.length x.1) : Int))) (cnd (decide ((0:Int) ≤
    v.2.1) && decide (v.2.1 < (↑(List.length x.1) : Int))) (obind (w_kids_Hear (v.1, wr .i64 ((1:Int) + wr .i64 (Int.tmod (Prod.fst (List.getD x.1
    (Int.toNat v.2.1) ((0:Int), (0:Int), (0:Int)))) (8:Int))), wr .i64 ((1:Int) + wr .i64 (Int.tmod (Prod.fst (Prod.snd (List.getD x.1 (Int.toNat v.2.1)
    ((0:Int), (0:Int), (0:Int))))) (3:Int))), wr .i64 (Int.tmod (Prod.snd (Prod.snd (List.getD x.1 (Int.toNat v.2.1) ((0:Int), (0:Int), (0:Int)))))
    (50:Int)))) fun b => cnd (!mhas (wr .i64 ((1:Int) + wr .i64 (Int.tmod (Prod.fst (List.getD x.1 (Int.toNat v.2.1) ((0:Int), (0:Int), (0:Int))))
    (8:Int)))) v.2.2) (cnd (!b.2 == true) (some (Sum.inr (Sum.inr false))) (cnd b.2 (some (Sum.inl (b.1, wr .i64 (v.2.1 + (1:Int)), mput (wr .i64
    ((1:Int) + wr .i64 (Int.tmod (Prod.fst (List.getD x.1 (Int.toNat v.2.1) ((0:Int), (0:Int), (0:Int)))) (8:Int)))) (wr .i64 ((1:Int) + wr .i64
    (Int.tmod (Prod.fst (List.getD x.1 (Int.toNat v.2.1) ((0:Int), (0:Int), (0:Int)))) (8:Int))), wr .i64 ((1:Int) + wr .i64 (Int.tmod (Prod.fst
    (Prod.snd (List.getD x.1 (Int.toNat v.2.1) ((0:Int), (0:Int), (0:Int))))) (3:Int))), wr .i64 (Int.tmod (Prod.snd (Prod.snd (List.getD x.1 (Int.toNat
    v.2.1) ((0:Int), (0:Int), (0:Int))))) (50:Int))) v.2.2))) (some (Sum.inl (b.1, wr .i64 (v.2.1 + (1:Int)), v.2.2))))) (cnd (!b.2 == decide (Prod.fst
    (Prod.snd (mget ((0:Int), (0:Int), (0:Int)) (wr .i64 ((1:Int) + wr .i64 (Int.tmod (Prod.fst (List.getD x.1 (Int.toNat v.2.1) ((0:Int), (0:Int),
    (0:Int)))) (8:Int)))) v.2.2)) ≤ wr .i64 ((1:Int) + wr .i64 (Int.tmod (Prod.fst (Prod.snd (List.getD x.1 (Int.toNat v.2.1) ((0:Int), (0:Int),
    (0:Int))))) (3:Int))))) (some (Sum.inr (Sum.inr false))) (cnd b.2 (some (Sum.inl (b.1, wr .i64 (v.2.1 + (1:Int)), mput (wr .i64 ((1:Int) + wr .i64
    (Int.tmod (Prod.fst (List.getD x.1 (Int.toNat v.2.1) ((0:Int), (0:Int), (0:Int)))) (8:Int)))) (wr .i64 ((1:Int) + wr .i64 (Int.tmod (Prod.fst
    (List.getD x.1 (Int.toNat v.2.1) ((0:Int), (0:Int), (0:Int)))) (8:Int))), wr .i64 ((1:Int) + wr .i64 (Int.tmod (Prod.fst (Prod.snd (List.getD x.1
    (Int.toNat v.2.1) ((0:Int), (0:Int), (0:Int))))) (3:Int))), wr .i64 (Int.tmod (Prod.snd (Prod.snd (List.getD x.1 (Int.toNat v.2.1) ((0:Int),
    (0:Int), (0:Int))))) (50:Int))) v.2.2))) (some (Sum.inl (b.1, wr .i64 (v.2.1 + (1:Int)), v.2.2)))))) none) none) none) (some (Sum.inr (Sum.inl (v.1,
    v.2.2))))) ([], (0:Int), [])) fun (b : List (Int × Int × Int) × List (Int × Int × Int × Int) ⊕ Bool) => selim (fun (b : List (Int × Int × Int) ×
    List (Int × Int × Int × Int)) => obind (w_kids_May b.1) fun b_1 => cnd (!b_1) (some false) (cnd (decide ((↑(List.length b.1) : Int) ≠
    (↑(List.length b.2) : Int))) (some false) (obind (w_kids_Prune (b.1, wr .i64 x.2)) fun b_2 => obind (loopN N (fun (v : Int × List (Int × Int × Int
    × Int)) => cnd (decide (v.1 ≤ (8:Int))) (obind (w_kids_Find (b.1, v.1)) fun b => obind (w_kids_Find (b_2, v.1)) fun b_3 => obind (cnd (!b.1 ==
    mhas v.1 v.2) (some (true, v.2, Prod.fst (mget ((0:Int), (0:Int), (0:Int)) v.1 v.2), Prod.fst (Prod.snd (mget ((0:Int), (0:Int), (0:Int)) v.1 v.2)),
    Prod.snd (Prod.snd (mget ((0:Int), (0:Int), (0:Int)) v.1 v.2)))) (cnd b.1 (some (!(decide (b.2.1 = Prod.fst (mget ((0:Int), (0:Int), (0:Int)) v.1
    v.2)) && (decide (b.2.2.1 = Prod.fst (Prod.snd (mget ((0:Int), (0:Int), (0:Int)) v.1 v.2))) && decide (b.2.2.2 = Prod.snd (Prod.snd (mget ((0:Int),
    (0:Int), (0:Int)) v.1 v.2))))), v.2, Prod.fst (mget ((0:Int), (0:Int), (0:Int)) v.1 v.2), Prod.fst (Prod.snd (mget ((0:Int), (0:Int), (0:Int)) v.1
    v.2)), Prod.snd (Prod.snd (mget ((0:Int), (0:Int), (0:Int)) v.1 v.2)))) (some (false, v.2, Prod.fst (mget ((0:Int), (0:Int), (0:Int)) v.1 v.2),
    Prod.fst (Prod.snd (mget ((0:Int), (0:Int), (0:Int)) v.1 v.2)), Prod.snd (Prod.snd (mget ((0:Int), (0:Int), (0:Int)) v.1 v.2)))))) fun (b : Bool ×
    List (Int × Int × Int × Int) × Int × Int × Int) => cnd b.1 (some (Sum.inr (Sum.inr false))) (cnd (mhas v.1 v.2) (cnd (!b_3.1 == decide (wr .i64 (wr
    .i64 x.2 - b.2.2.2.2) ≤ (20:Int))) (some (Sum.inr (Sum.inr false))) (some (Sum.inl (wr .i64 (v.1 + (1:Int)), b.2.1)))) (cnd (!b_3.1 == false) (some
    (Sum.inr (Sum.inr false))) (some (Sum.inl (wr .i64 (v.1 + (1:Int)), b.2.1)))))) (some (Sum.inr (Sum.inl ())))) ((1:Int), b.2)) fun (b : PUnit ⊕
    Bool) => selim (fun (b : PUnit) => obind (w_kids_May b_2) fun b => some b) (fun (c : Bool) => some c) b))) (fun (c : Bool) => some c) b))
theorem q_law6_KidsHeard : ∀ w_law6_begun w_kids_Hear w_kids_May w_kids_Prune w_kids_Find N x, u_law6_KidsHeard.F L0 P0 (orcOf [u_law6_begun.con w_law6_begun, u_kids_Hear.con w_kids_Hear, u_kids_May.con w_kids_May, u_kids_Prune.con w_kids_Prune, u_kids_Find.con w_kids_Find]) N x = V_law6_KidsHeard w_law6_begun w_kids_Hear w_kids_May w_kids_Prune w_kids_Find N x := by intros; kernel_rfl
noncomputable def W_law6_KidsHeard (N : Nat) := V_law6_KidsHeard (W_law6_begun N) (W_kids_Hear N) (W_kids_May N) (W_kids_Prune N) (W_kids_Find N) N
theorem con_law6_KidsHeard_ok (N : Nat) : (u_law6_KidsHeard.con (W_law6_KidsHeard N)).ok P0 := Uf.ok mixed (q_law6_KidsHeard (W_law6_begun N) (W_kids_Hear N) (W_kids_May N) (W_kids_Prune N) (W_kids_Find N) N) ⟨con_law6_begun_ok N, con_kids_Hear_ok N, con_kids_May_ok N, con_kids_Prune_ok N, con_kids_Find_ok N, trivial⟩ Try.func3 (by kernel_rfl) fun x y => by kernel_rfl
/-! What is reckoned. -/
-- PURE
theorem wr_m {z : Int} (h : -140737488355328 ≤ z) (h2 : z ≤ 140737488355328) : wr .i64 z = z := wr_i64 (by omega) (by omega)
theorem cnd_T {α : Type} {p : Prop} {i : Decidable p} {x y : α} (h : p) : cnd (@decide p i) x y = x := by rw [decide_eq_true h]; rfl
theorem cnd_F {α : Type} {p : Prop} {i : Decidable p} {x y : α} (h : ¬ p) : cnd (@decide p i) x y = y := by rw [decide_eq_false h]; rfl
theorem loopG {σ ρ : Type} {f : σ → Option (σ ⊕ ρ)} (I : Nat → σ → Prop) (B : Nat) (J : ρ → Prop) (hb : ∀ k x, I k x → k ≤ B) (hs : ∀ k x, I k x → (∃ y, f x = some (.inl y) ∧ I (k + 1) y) ∨ ∃ r, f x = some (.inr r) ∧ J r) :
    ∀ (M k : Nat) (x : σ), I k x → B < M + k → ∃ r, loopN M f x = some r ∧ J r
  | 0, k, x, h, hm => by have := hb k x h; omega
  | M + 1, k, x, h, hm => by
    rcases hs k x h with ⟨y, h1, h2⟩ | ⟨r, h1, h2⟩
    · obtain ⟨r, h4, h5⟩ := loopG I B J hb hs M (k + 1) y h2 (by omega)
      exact ⟨r, by simp only [loopN, h1]; exact h4, h5⟩
    · exact ⟨r, by simp only [loopN, h1], h2⟩
theorem loop_G {σ ρ β : Type} {f : σ → Option (σ ⊕ ρ)} {g : ρ → Option β} {x : σ} {N : Nat} (Q : Option β → Prop) (I : Nat → σ → Prop) (B : Nat) (J : ρ → Prop) (hx : I 0 x) (hm : B < N) (hk : ∀ r, J r → Q (g r)) (hb : ∀ k x, I k x → k ≤ B)
    (hs : ∀ k x, I k x → (∃ y, f x = some (.inl y) ∧ I (k + 1) y) ∨ ∃ r, f x = some (.inr r) ∧ J r) : Q (obind (loopN N f x) g) := by
  obtain ⟨r, h1, h2⟩ := loopG I B J hb hs N 0 x hx (by omega)
  rw [h1]; exact hk r h2
abbrev Kd := Int × Int × Int
abbrev kD : Kd := ((0 : Int), (0 : Int), (0 : Int))
theorem drop_consK {l : List Kd} {i : Nat} (h : i < l.length) : l.drop i = l.getD i kD :: l.drop (i + 1) := by
  rw [List.drop_eq_getElem_cons h, List.getD_eq_getElem?_getD, List.getElem?_eq_getElem h]; rfl
theorem getD_memK {l : List Kd} {i : Nat} (h : i < l.length) : l.getD i kD ∈ l := by
  rw [List.getD_eq_getElem?_getD, List.getElem?_eq_getElem h]; exact List.getElem_mem h
/-- Kids that rise from n on. -/
def Kw (n : Int) : List Kd → Prop
  | [] => True
  | w :: r => n ≤ w.1 ∧ w.1 ≤ 8 ∧ Kw (w.1 + 1) r
theorem Kw.mono : ∀ {l : List Kd} {n n' : Int}, Kw n l → n' ≤ n → Kw n' l
  | [], _, _, _, _ => trivial
  | w :: r, n, n', h, h1 => ⟨by have := h.1; omega, h.2.1, h.2.2⟩
theorem Kw.len : ∀ {l : List Kd} {n : Int}, Kw n l → n ≤ 9 → (l.length : Int) ≤ 9 - n
  | [], _, _, _ => by simp; omega
  | w :: r, n, h, h1 => by
    have := h.2.2.len (by have := h.2.1; omega)
    have := h.1
    simp only [List.length_cons]; omega
theorem Kw.filter (p : Kd → Bool) : ∀ {l : List Kd} {n : Int}, Kw n l → Kw n (l.filter p)
  | [], _, _ => trivial
  | w :: r, n, h => by
    rw [List.filter_cons]
    split
    · exact ⟨h.1, h.2.1, Kw.filter p h.2.2⟩
    · exact (Kw.filter p h.2.2).mono (by have := h.1; omega)
theorem Kw.drop : ∀ {l : List Kd} {n : Int}, Kw n l → ∀ k, Kw n (l.drop k)
  | l, _, h, 0 => by simpa using h
  | [], _, _, k + 1 => by simp; trivial
  | w :: r, n, h, k + 1 => (h.2.2.drop k).mono (by have := h.1; omega)
/-- Whom a row has under a number. -/
def findK : List Kd → Int → Bool × Kd
  | [], _ => (false, kD)
  | w :: r, s => if w.1 = s then (true, w) else findK r s
theorem findK_none : ∀ {l : List Kd} {n : Int}, Kw n l → ∀ s, s < n → findK l s = (false, kD)
  | [], _, _, _, _ => rfl
  | w :: r, n, h, s, hs => by
    have := h.1
    simp only [findK]
    rw [if_neg (by omega)]
    exact findK_none h.2.2 s (by omega)
def insNK (x : Int) : List Kd → Nat
  | [] => 0
  | w :: r => if x ≤ w.1 then 0 else insNK x r + 1
/-- A kid in its place. -/
def putK (k : Kd) : List Kd → List Kd
  | [] => [k]
  | w :: r => if w.1 = k.1 then k :: r else if k.1 < w.1 then k :: w :: r else w :: putK k r
theorem insNK_le (x : Int) : ∀ l, insNK x l ≤ l.length
  | [] => by simp [insNK]
  | w :: r => by
    simp only [insNK, List.length_cons]
    have := insNK_le x r
    split <;> omega
theorem Kw.put : ∀ {l : List Kd} {n : Int} {k : Kd}, Kw n l → n ≤ k.1 → k.1 ≤ 8 → Kw n (putK k l)
  | [], _, _, _, h1, h2 => ⟨h1, h2, trivial⟩
  | w :: r, n, k, h, h1, h2 => by
    simp only [putK]
    by_cases c : w.1 = k.1
    · rw [if_pos c]; exact ⟨h1, h2, by rw [← c]; exact h.2.2⟩
    · rw [if_neg c]
      by_cases c2 : k.1 < w.1
      · rw [if_pos c2]; exact ⟨h1, h2, by omega, h.2.1, h.2.2⟩
      · rw [if_neg c2]; exact ⟨h.1, h.2.1, h.2.2.put (by omega) h2⟩
theorem putK_mem (k : Kd) : ∀ (l : List Kd) (w : Kd), w ∈ putK k l → w = k ∨ w ∈ l
  | [], w, h => by simp [putK] at h; exact .inl h
  | y :: r, w, h => by
    simp only [putK] at h
    split at h
    · rcases List.mem_cons.1 h with h | h
      · exact .inl h
      · exact .inr (by simp [h])
    · split at h
      · rcases List.mem_cons.1 h with h | h
        · exact .inl h
        · exact .inr h
      · rcases List.mem_cons.1 h with h | h
        · exact .inr (by simp [h])
        · rcases putK_mem k r w h with h | h
          · exact .inl h
          · exact .inr (by simp [h])
theorem seek_eq (N : Nat) (hN : 2000 ≤ N) (l : List Kd) (s n : Int) (hw : Kw n l) (hl : l.length ≤ 1000) : W_kids_seek N (l, s) = some (if (findK l s).1 = true then .inl ((insNK s l : Int), (findK l s).2) else .inr (insNK s l : Int)) := by
  unfold W_kids_seek V_kids_seek
  try simp only
  refine loop_G (N := N) (fun o => o = some (if (findK l s).1 = true then (.inl ((insNK s l : Int), (findK l s).2) : (Int × Kd) ⊕ Int) else .inr (insNK s l : Int))) (fun k (v : Int) => v = k ∧ k ≤ l.length ∧ findK (l.drop k) s = findK l s ∧ insNK s (l.drop k) + k = insNK s l) l.length
    (fun r : PUnit ⊕ (Int × Kd) ⊕ Int => (r = .inl () ∧ (findK l s).1 = false ∧ insNK s l = l.length) ∨ (r = .inr (if (findK l s).1 = true then (.inl ((insNK s l : Int), (findK l s).2) : (Int × Kd) ⊕ Int) else .inr (insNK s l : Int)))) ⟨rfl, by omega, rfl, by simp⟩ (by omega) ?_ (fun k v h => h.2.1) ?_
  · rintro r (⟨rfl, h, h2⟩ | rfl)
    · rw [selim_l, h, if_neg (by simp), h2]
    · rw [selim_r]
  · rintro k v ⟨e, hk, hg, hi⟩
    subst e
    by_cases c : (k : Int) < l.length
    case neg =>
      right
      rw [dF c, cnd_f]
      rw [List.drop_eq_nil_of_le (by omega)] at hg hi
      exact ⟨_, rfl, .inl ⟨rfl, by rw [← hg]; rfl, by simp only [insNK] at hi; omega⟩⟩
    have hwd := hw.drop k
    rw [drop_consK (by omega)] at hg hi hwd
    simp only [findK, insNK] at hg hi
    rw [dT c, cnd_t, dT (by omega), Bool.and_self, cnd_t, Int.toNat_natCast]
    by_cases c2 : (l.getD k kD).1 = s
    · right
      rw [if_pos c2] at hg
      rw [if_pos (by omega)] at hi
      rw [dT c2, cnd_t]
      refine ⟨_, rfl, .inr ?_⟩
      rw [← hg, if_pos rfl, ← hi]
      simp
    rw [if_neg c2] at hg
    rw [dF c2, cnd_f]
    by_cases c3 : s < (l.getD k kD).1
    · right
      rw [if_pos (by omega)] at hi
      rw [dT c3, cnd_t]
      have := findK_none hwd.2.2 s (by omega)
      rw [this] at hg
      refine ⟨_, rfl, .inr ?_⟩
      rw [← hg, if_neg (by simp)]
      congr 2; omega
    · left
      rw [if_neg (by omega)] at hi
      rw [dF c3, cnd_f, wr_m (by omega) (by omega)]
      exact ⟨_, rfl, by omega, by omega, hg, by omega⟩
theorem find_eq (N : Nat) (hN : 2000 ≤ N) (l : List Kd) (s n : Int) (hw : Kw n l) (hl : l.length ≤ 1000) : W_kids_Find N (l, s) = some (findK l s) := by
  unfold W_kids_Find V_kids_Find
  rw [seek_eq N hN l s n hw hl, obind_s]
  have hnone : ∀ (l : List Kd), (findK l s).1 = false → findK l s = (false, kD) := by
    intro l
    induction l with
    | nil => intro _; rfl
    | cons w r ih =>
      intro h
      simp only [findK] at h ⊢
      split at h
      · cases h
      · rename_i q; rw [if_neg q]; exact ih h
  cases h : (findK l s).1 with
  | true => rw [if_pos rfl, selim_l, ← h]
  | false => rw [if_neg (by simp), selim_r, hnone l h]
def oldK (l : List Kd) (id inc : Int) : Bool := (findK l id).1 && decide (inc < (findK l id).2.2.1)
theorem old_eq (N : Nat) (hN : 2000 ≤ N) (l : List Kd) (s inc n : Int) (hw : Kw n l) (hl : l.length ≤ 1000) : W_kids_Old N (l, s, inc) = some (oldK l s inc) := by
  unfold W_kids_Old V_kids_Old oldK
  try simp only
  rw [find_eq N hN l s n hw hl, obind_s]
  cases h : (findK l s).1 with
  | true => rw [cnd_t, Bool.true_and]
  | false => rw [cnd_f, Bool.false_and]
theorem pCloneK (N : Nat) (l : List Kd) (hl : l.length ≤ 100000000) : W_slices_Clone_api_Kid N l = some l := by
  unfold W_slices_Clone_api_Kid V_slices_Clone_api_Kid
  rw [cnd_T (by omega)]
theorem putK_in : ∀ (l : List Kd) (n : Int) (k : Kd), Kw n l → (findK l k.1).1 = true → insNK k.1 l < l.length ∧ putL l [k] (insNK k.1 l) = putK k l
  | [], _, _, _, h => by simp [findK] at h
  | w :: r, n, k, hw, h => by
    simp only [findK] at h
    by_cases c : w.1 = k.1
    · simp only [insNK, putK]
      rw [if_pos (by omega), if_pos c]
      exact ⟨by simp, by simp [putL]⟩
    · rw [if_neg c] at h
      have c2 : ¬ k.1 ≤ w.1 := by
        intro q
        have := findK_none hw.2.2 k.1 (by omega)
        rw [this] at h; cases h
      obtain ⟨a, b⟩ := putK_in r _ k hw.2.2 h
      simp only [insNK, putK]
      rw [if_neg c2, if_neg c, if_neg (by omega), ← b]
      refine ⟨by simp only [List.length_cons]; omega, ?_⟩
      simp [putL, Nat.add_right_comm]
theorem putK_new : ∀ (l : List Kd) (n : Int) (k : Kd), Kw n l → (findK l k.1).1 = false → List.take (insNK k.1 l) l ++ ([k] ++ List.drop (insNK k.1 l) l) = putK k l
  | [], _, _, _, h => rfl
  | w :: r, n, k, hw, h => by
    simp only [findK] at h
    by_cases c : w.1 = k.1
    · rw [if_pos c] at h; cases h
    · rw [if_neg c] at h
      simp only [insNK, putK]
      rw [if_neg c]
      by_cases c2 : k.1 < w.1
      · rw [if_pos (by omega), if_pos c2]; rfl
      · rw [if_neg (by omega), if_neg c2]
        simp only [List.take_succ_cons, List.drop_succ_cons, List.cons_append]
        rw [← putK_new r _ k hw.2.2 h]; rfl
theorem hear_eq (N : Nat) (hN : 2000 ≤ N) (l : List Kd) (n : Int) (k : Kd) (hw : Kw n l) (hl : l.length ≤ 1000) : W_kids_Hear N (l, k) = some (if oldK l k.1 k.2.1 = true then (l, false) else (putK k l, true)) := by
  unfold W_kids_Hear V_kids_Hear
  try simp only
  rw [pCloneK N l (by omega), obind_s, old_eq N hN l k.1 k.2.1 n hw hl, obind_s]
  cases ho : oldK l k.1 k.2.1 with
  | true => rw [cnd_t, if_pos rfl]
  | false =>
    rw [cnd_f, if_neg (by simp), seek_eq N hN l k.1 n hw hl, obind_s]
    have hle := insNK_le k.1 l
    cases h : (findK l k.1).1 with
    | true =>
      obtain ⟨a, b⟩ := putK_in l n k hw h
      rw [if_pos rfl, selim_l]
      try simp only
      rw [dT (by omega), dT (by omega), Bool.and_self, cnd_t, obind_s, selim_l, Int.toNat_natCast]
      try simp only
      rw [← b]
    | false =>
      rw [if_neg (by simp), selim_r, obind_s, selim_r]
      unfold W_slices_Insert_api_Kid
      try simp only
      rw [dT (by omega), dT (by omega), dT (by rfl), dT (by omega)]
      simp only [Bool.and_self, cnd_t, obind_s, Int.toNat_natCast]
      rw [← putK_new l n k hw h]
theorem filter1 (p : Kd → Bool) (x : Kd) : [x].filter (fun k => !p k) = if p x = true then [] else [x] := by
  rw [List.filter_cons]
  cases p x <;> rfl
theorem take_snocK {l : List Kd} {k : Nat} (h : k < l.length) : l.take (k + 1) = l.take k ++ [l.getD k kD] := by
  rw [List.take_succ_eq_append_getElem h, List.getD_eq_getElem?_getD, List.getElem?_eq_getElem h]; rfl
theorem idx_Prune_eq (N : Nat) (hN : 2000 ≤ N) (l : List Kd) (c : Int) (p : Kd → Bool) (hp : ∀ k ∈ l, W_kids_Prune_1 N (k, c) = some (p k, c)) (hl : l.length ≤ 1000) : ∃ r : Int, W_slices_IndexFunc_api_Kid__kids_Prune_1 N (l, c) = some (r, c) ∧ ((r = -1 ∧ ∀ x ∈ l, p x = false) ∨ ∃ i : Nat, r = i ∧ i < l.length ∧ p (l.getD i kD) = true ∧ ∀ x ∈ l.take i, p x = false) := by
  unfold W_slices_IndexFunc_api_Kid__kids_Prune_1 V_slices_IndexFunc_api_Kid__kids_Prune_1
  try simp only
  refine loop_G (N := N) (fun o => ∃ r : Int, o = some (r, c) ∧ ((r = -1 ∧ ∀ x ∈ l, p x = false) ∨ ∃ i : Nat, r = i ∧ i < l.length ∧ p (l.getD i kD) = true ∧ ∀ x ∈ l.take i, p x = false)) (fun k (v : Int × Int) => v = (↑k, c) ∧ k ≤ l.length ∧ ∀ x ∈ l.take k, p x = false) l.length
    (fun r : Int ⊕ Int × Int => (r = .inl c ∧ ∀ x ∈ l, p x = false) ∨ ∃ i : Nat, r = .inr ((i : Int), c) ∧ i < l.length ∧ p (l.getD i kD) = true ∧ ∀ x ∈ l.take i, p x = false) ⟨rfl, by omega, by simp⟩ (by omega) ?_ (fun k v h => h.2.1) ?_
  · rintro r (⟨rfl, h⟩ | ⟨i, rfl, h⟩)
    · rw [selim_l]; exact ⟨-1, rfl, .inl ⟨rfl, h⟩⟩
    · rw [selim_r]; exact ⟨i, rfl, .inr ⟨i, rfl, h⟩⟩
  · rintro k v ⟨rfl, hk, hq⟩
    try simp only
    by_cases cl : (k : Int) < l.length
    case neg =>
      right
      rw [dF cl, cnd_f]
      refine ⟨_, rfl, .inl ⟨rfl, fun x hx => hq x ?_⟩⟩
      rw [List.take_of_length_le (by omega)]; exact hx
    have hm := getD_memK (l := l) (i := k) (by omega)
    rw [dT cl, cnd_t, dT (by omega), Bool.and_self, cnd_t, Int.toNat_natCast]
    show (∃ y, obind (W_kids_Prune_1 N (l.getD k kD, c)) _ = _ ∧ _) ∨ (∃ y, obind (W_kids_Prune_1 N (l.getD k kD, c)) _ = _ ∧ _)
    rw [hp _ hm, obind_s]
    try simp only
    cases hb : p (l.getD k kD) with
    | true => right; rw [cnd_t]; exact ⟨_, rfl, .inr ⟨k, rfl, by omega, hb, hq⟩⟩
    | false =>
      left
      rw [cnd_f, wr_m (by omega) (by omega)]
      refine ⟨_, rfl, by simp, by omega, fun x hx => ?_⟩
      rw [take_snocK (by omega)] at hx
      rcases List.mem_append.1 hx with hx | hx
      · exact hq x hx
      · rw [List.mem_singleton.1 hx]; exact hb
theorem del_Prune_eq (N : Nat) (hN : 2000 ≤ N) (l : List Kd) (c : Int) (p : Kd → Bool) (hp : ∀ k ∈ l, W_kids_Prune_1 N (k, c) = some (p k, c)) (hl : l.length ≤ 1000) : W_slices_DeleteFunc_api_Kid__kids_Prune_1 N (l, c) = some (l.filter (fun k => !p k), c) := by
  obtain ⟨r, h1, h2⟩ := idx_Prune_eq N hN l c p hp hl
  unfold W_slices_DeleteFunc_api_Kid__kids_Prune_1 V_slices_DeleteFunc_api_Kid__kids_Prune_1
  try simp only
  rw [h1, obind_s]
  try simp only
  rcases h2 with ⟨rfl, hall⟩ | ⟨i, rfl, hi, hpi, hq⟩
  · rw [dT rfl, cnd_t, List.filter_eq_self.2 (fun x hx => by rw [hall x hx]; rfl)]
  rw [dF (by omega), cnd_f, wr_m (z := (i : Int) + 1) (by omega) (by omega)]
  have f0 : (l.take (i + 1)).filter (fun k => !p k) = l.take i := by
    rw [take_snocK hi, List.filter_append, List.filter_eq_self.2 (fun x hx => by rw [hq x hx]; rfl)]
    rw [filter1, hpi]; simp
  refine loop_G (N := N) (fun o => o = some (l.filter (fun k => !p k), c)) (fun k (v : Int × Int × List Kd × Int) => ∃ (a b : Nat), v = ((a : Int), (b : Int), v.2.2.1, c) ∧ b = i + 1 + k ∧ a < b ∧ b ≤ l.length ∧ v.2.2.1.length = l.length ∧ v.2.2.1.take a = (l.take b).filter (fun k => !p k) ∧ v.2.2.1.drop b = l.drop b) l.length
    (fun r : Int × List Kd × Int => ∃ a : Nat, r = ((a : Int), r.2.1, c) ∧ a ≤ r.2.1.length ∧ r.2.1.length = l.length ∧ r.2.1.take a = l.filter (fun k => !p k)) ⟨i, i + 1, rfl, rfl, by omega, by omega, rfl, f0.symm, rfl⟩ (by omega) ?_ (fun k v h => by obtain ⟨a, b, _, h1, _, h2, _⟩ := h; omega) ?_
  · rintro ⟨n, row, c'⟩ ⟨a, e, ha, hlen, hr⟩
    simp only at e ha hlen hr
    injection e with e1 e2
    injection e2 with e3 e4
    subst e1 e4
    have hz : (putL row (List.replicate (row.length - a) ((0 : Int), (0 : Int), (0 : Int))) (0 + a)).length = row.length := by
      simp [putL]; omega
    refine (cnd_T (show (0 : Int) ≤ (a : Int) by omega)).trans ?_
    refine (cnd_T (show (a : Int) ≤ (row.length : Int) by omega)).trans ?_
    refine (cnd_T (show (0 : Int) ≤ (a : Int) by omega)).trans ?_
    refine (cnd_T (show ((0 : Nat) : Int) + (a : Int) ≤ ((putL row (List.replicate (row.length - a) ((0 : Int), (0 : Int), (0 : Int))) (0 + a)).length : Int) by rw [hz]; omega)).trans ?_
    have : List.drop (0 + 0) (List.take (0 + 0 + (a - 0)) (putL row (List.replicate (row.length - a) ((0 : Int), (0 : Int), (0 : Int))) (0 + a))) = row.take a := by
      simp only [Nat.zero_add, Nat.sub_zero, List.drop_zero]
      unfold putL
      rw [List.take_append_of_le_length (by simp; omega), List.take_take]
      simp
    show some (List.drop (0 + 0) (List.take (0 + 0 + (a - 0)) (putL row (List.replicate (row.length - a) ((0 : Int), (0 : Int), (0 : Int))) (0 + a))), c') = _
    rw [this, hr]
  · rintro k ⟨n, j, row, c'⟩ ⟨a, b, e, hb, hab, hbl, hlen, ht, hd⟩
    simp only at e hlen ht hd
    injection e with e1 e2
    injection e2 with e3 e4
    injection e4 with e5 e6
    subst e1 e3 e6
    try simp only
    by_cases cl : (b : Int) < row.length
    case neg =>
      right
      rw [dF cl, cnd_f]
      refine ⟨_, rfl, a, rfl, by simp only; omega, hlen, ?_⟩
      try simp only
      rw [ht, List.take_of_length_le (by omega)]
    left
    have hx : row.getD b kD = l.getD b kD := by
      have h1 := drop_consK (l := row) (i := b) (by omega)
      have h2 := drop_consK (l := l) (i := b) (by omega)
      rw [hd, h2] at h1
      injection h1 with h1 _
      exact h1.symm
    have hm := getD_memK (l := l) (i := b) (by omega)
    rw [dT cl, cnd_t, dT (by omega), Bool.and_self, cnd_t, Int.toNat_natCast]
    show ∃ y, obind (W_kids_Prune_1 N (row.getD b kD, c')) _ = _ ∧ _
    rw [hx, hp _ hm, obind_s]
    try simp only
    have hd1 : ∀ r2 : List Kd, r2.drop b = l.drop b → r2.drop (b + 1) = l.drop (b + 1) := fun r2 h => by rw [← List.drop_drop, ← List.drop_drop, h]
    rw [wr_m (z := (b : Int) + 1) (by omega) (by omega)]
    cases hb2 : p (l.getD b kD) with
    | true =>
      rw [Bool.not_true, cnd_f]
      refine ⟨_, rfl, a, b + 1, by simp only; rfl, by omega, by omega, by omega, hlen, ?_, hd1 row hd⟩
      try simp only
      rw [ht, take_snocK (by omega), List.filter_append, filter1, hb2]
      simp
    | false =>
      rw [Bool.not_false, cnd_t, dT (show (0 : Int) ≤ (a : Int) by omega), dT (show (a : Int) < row.length by omega), Bool.and_self, cnd_t, wr_m (z := (a : Int) + 1) (by omega) (by omega), Int.toNat_natCast]
      refine ⟨_, rfl, a + 1, b + 1, by simp only; rfl, by omega, by omega, by omega, ?_, ?_, ?_⟩
      · show (putL row [l.getD b kD] a).length = _
        unfold putL
        simp only [List.length_append, List.length_take, List.length_drop, List.length_singleton]; omega
      · show (putL row [l.getD b kD] a).take (a + 1) = _
        rw [take_snocK (l := l) (k := b) (by omega), List.filter_append, ← ht, filter1, hb2]
        unfold putL
        rw [List.take_append, List.take_of_length_le (by simp; omega), List.length_take, show a + 1 - min a row.length = 1 by omega]
        rfl
      · show (putL row [l.getD b kD] a).drop (b + 1) = _
        rw [← hd1 row hd]
        unfold putL
        rw [List.drop_append, List.drop_eq_nil_of_le (by simp; omega), List.nil_append, List.drop_append, List.drop_eq_nil_of_le (by simp; omega), List.nil_append, List.drop_drop]
        congr 1
        simp
        omega
theorem prune_eq (N : Nat) (hN : 2000 ≤ N) (l : List Kd) (now : Int) (hl : l.length ≤ 1000) (h1 : -1000000000 ≤ now) (h2 : now ≤ 1000000000) : W_kids_Prune N (l, now) = some (l.filter (fun k => !decide (k.2.2 < now - 20))) := by
  unfold W_kids_Prune V_kids_Prune
  try simp only
  rw [pCloneK N l (by omega), obind_s, del_Prune_eq N hN l now (fun k => decide (k.2.2 < now - 20)) (fun k _ => by unfold W_kids_Prune_1 V_kids_Prune_1; simp only; rw [wr_m (by omega) (by omega)]) hl, obind_s]
theorem bifI {α : Type} (a b : Int) (x y : α) : (bif a == b then x else y) = if a = b then x else y := by
  by_cases h : a = b
  · subst h; simp
  · rw [if_neg h, beq_false_of_ne h]; rfl
theorem mhas_c {α : Type} (k : Int) (p : Int × α) (r : List (Int × α)) : mhas k (p :: r) = if p.1 = k then true else mhas k r := bifI _ _ _ _
theorem mget_c {α : Type} (d : α) (k : Int) (p : Int × α) (r : List (Int × α)) : mget d k (p :: r) = if p.1 = k then p.2 else mget d k r := bifI _ _ _ _
theorem mput_c {α : Type} (k : Int) (x : α) (p : Int × α) (r : List (Int × α)) : mput k x (p :: r) = if p.1 = k then (k, x) :: r else p :: mput k x r := bifI _ _ _ _
theorem mhas_mput {α : Type} (k k' : Int) (x : α) : ∀ l : List (Int × α), mhas k (mput k' x l) = (decide (k = k') || mhas k l)
  | [] => by
    show mhas k [(k', x)] = _
    rw [mhas_c]
    by_cases h : k = k'
    · subst h; simp
    · rw [if_neg (fun e => h (Eq.symm e)), decide_eq_false h]; rfl
  | p :: r => by
    have ih := mhas_mput k k' x r
    rw [mput_c, mhas_c k p r]
    by_cases h1 : p.1 = k'
    · rw [if_pos h1, mhas_c]
      by_cases h2 : k = k'
      · subst h2; simp
      · rw [if_neg (fun e => h2 (Eq.symm e)), if_neg (by omega), decide_eq_false h2]; rfl
    · rw [if_neg h1, mhas_c, ih]
      by_cases h4 : p.1 = k
      · rw [if_pos h4, if_pos h4]; simp
      · rw [if_neg h4, if_neg h4]
theorem mget_mput {α : Type} (d : α) (k k' : Int) (x : α) : ∀ l : List (Int × α), mget d k (mput k' x l) = if k = k' then x else mget d k l
  | [] => by
    show mget d k [(k', x)] = _
    rw [mget_c]
    by_cases h : k = k'
    · rw [if_pos h, if_pos h.symm]
    · rw [if_neg (fun e => h (Eq.symm e)), if_neg h]
  | p :: r => by
    have ih := mget_mput d k k' x r
    rw [mput_c, mget_c d k p r]
    by_cases h1 : p.1 = k'
    · rw [if_pos h1, mget_c]
      by_cases h2 : k = k'
      · rw [if_pos h2, if_pos h2.symm]
      · rw [if_neg (fun e => h2 (Eq.symm e)), if_neg h2, if_neg (by omega)]
    · rw [if_neg h1, mget_c, ih]
      by_cases h4 : p.1 = k
      · rw [if_pos h4, if_neg (by omega), if_pos h4]
      · rw [if_neg h4, if_neg h4]
theorem mput_len {α : Type} (k : Int) (x : α) : ∀ l : List (Int × α), (mput k x l).length = l.length + (if mhas k l = true then 0 else 1)
  | [] => by simp [mput, mhas]
  | p :: r => by
    have ih := mput_len k x r
    rw [mput_c, mhas_c]
    by_cases h : p.1 = k
    · rw [if_pos h, if_pos h]; simp
    · rw [if_neg h, if_neg h]
      simp only [List.length_cons, ih]; omega
theorem findK_put {n : Int} {k : Kd} : ∀ {l : List Kd}, Kw n l → ∀ id, findK (putK k l) id = if id = k.1 then (true, k) else findK l id
  | [], _, id => by
    simp only [putK, findK]
    by_cases h : k.1 = id
    · rw [if_pos h, if_pos h.symm]
    · rw [if_neg h, if_neg (fun e => h e.symm)]
  | w :: r, hw, id => by
    unfold putK
    by_cases h1 : w.1 = k.1
    · rw [if_pos h1]
      simp only [findK]
      by_cases h : k.1 = id
      · rw [if_pos h, if_pos h.symm]
      · rw [if_neg h, if_neg (fun e => h e.symm), if_neg (by omega)]
    · rw [if_neg h1]
      by_cases h2 : k.1 < w.1
      · rw [if_pos h2]
        have e : findK (k :: w :: r) id = if k.1 = id then (true, k) else findK (w :: r) id := rfl
        rw [e]
        by_cases h : k.1 = id
        · rw [if_pos h, if_pos h.symm]
        · rw [if_neg h, if_neg (fun e => h (Eq.symm e))]
      · rw [if_neg h2]
        simp only [findK]
        by_cases h : w.1 = id
        · rw [if_pos h, if_neg (by omega), if_pos h]
        · rw [if_neg h, findK_put (Kw.mono hw.2.2 (Int.le_refl _)) id, if_neg h]
theorem putK_len {n : Int} {k : Kd} : ∀ {l : List Kd}, Kw n l → (putK k l).length = l.length + (if (findK l k.1).1 = true then 0 else 1)
  | [], _ => by simp [putK, findK]
  | w :: r, hw => by
    unfold putK
    by_cases h1 : w.1 = k.1
    · rw [if_pos h1]; simp [findK, h1]
    · rw [if_neg h1]
      simp only [findK, if_neg h1]
      by_cases h2 : k.1 < w.1
      · rw [if_pos h2, findK_none hw.2.2 k.1 (by omega)]; simp
      · rw [if_neg h2]
        simp only [List.length_cons, putK_len hw.2.2]; omega
theorem findK_filter (p : Kd → Bool) {n : Int} : ∀ {l : List Kd}, Kw n l → ∀ id, (findK (l.filter p) id).1 = ((findK l id).1 && p (findK l id).2)
  | [], _, id => by simp [findK]
  | w :: r, hw, id => by
    rw [List.filter_cons]
    by_cases h : w.1 = id
    · by_cases hp : p w = true
      · simp [hp, findK, h]
      · simp only [hp, Bool.false_eq_true, if_false, findK, if_pos h]
        rw [findK_none (hw.2.2.filter p) id (by omega)]
        simp
    · have ih := findK_filter p hw.2.2 id
      by_cases hp : p w = true
      · simp only [hp, if_true, findK, if_neg h, ih]
      · simp only [hp, Bool.false_eq_true, if_false, findK, if_neg h, ih]
/-- What each kid may be. -/
def KO (k : Kd) : Prop := 1 ≤ k.1 ∧ 1 ≤ k.2.1 ∧ k.2.1 ≤ 3 ∧ 0 ≤ k.2.2 ∧ k.2.2 ≤ 49
theorem may1_eq (N : Nat) (k : Kd) (h : KO k) (h8 : k.1 ≤ 8) : W_kids_may N k = some true := by
  obtain ⟨h1, h2, h3, h4, h5⟩ := h
  unfold W_kids_may V_kids_may
  rw [dT h1, cnd_t, dT h8, obind_s]
  try simp only
  rw [dT h2, cnd_t, obind_s]
  try simp only
  rw [cnd_t, dT (show k.2.1 ≤ 1073741824 by omega), obind_s]
  try simp only
  rw [cnd_t, dT h4, obind_s]
  try simp only
  rw [cnd_t, dT (show k.2.2 ≤ 1073741824 by omega)]
theorem May_eq (N : Nat) (hN : 2000 ≤ N) (l : List Kd) (hw : Kw 1 l) (ho : ∀ k ∈ l, KO k) (hl : l.length ≤ 1000) : W_kids_May N l = some true := by
  unfold W_kids_May V_kids_May
  refine loop_G (σ := Int × Int) (ρ := PUnit ⊕ Bool) (β := Bool) (· = some true) (fun i v => v.2 = i ∧ i ≤ l.length ∧ Kw (v.1 + 1) (l.drop i)) l.length (fun r => r = .inl ()) ⟨rfl, Nat.zero_le _, by simpa using hw⟩ (by omega) ?_ (fun k v h => h.2.1) ?_
  · rintro r rfl; rfl
  · rintro i ⟨p, q⟩ ⟨hq, hi, hk⟩
    simp only at hq hi hk ⊢
    subst hq
    by_cases hc : i < l.length
    · left
      rw [drop_consK hc] at hk
      obtain ⟨g1, g2, g3⟩ := hk
      rw [cnd_T (show (i : Int) < (l.length : Int) by omega), Int.toNat_natCast]
      have e : (decide ((0 : Int) ≤ (i : Int)) && decide ((i : Int) < (l.length : Int))) = true := by rw [dT (show (0 : Int) ≤ (i : Int) by omega), dT (show (i : Int) < (l.length : Int) by omega)]; rfl
      rw [e, cnd_t, may1_eq N _ (ho _ (getD_memK hc)) g2, obind_s, Bool.not_true, cnd_f, cnd_F (show ¬ (l.getD i kD).1 ≤ p by omega), wr_m (z := (i : Int) + 1) (by omega) (by omega)]
      exact ⟨_, rfl, rfl, by omega, g3⟩
    · right
      rw [cnd_F (show ¬ (i : Int) < (l.length : Int) by omega)]
      exact ⟨_, rfl, rfl⟩
abbrev Mp := List (Int × Kd)
/-- The row and the map have the same. -/
structure RM (l : List Kd) (m : Mp) : Prop where
  w : Kw 1 l
  o : ∀ k ∈ l, KO k
  f : ∀ id, findK l id = (mhas id m, mget kD id m)
  n : l.length = m.length
theorem RM.len {l : List Kd} {m : Mp} (h : RM l m) : l.length ≤ 8 := by
  have := h.w.len (by omega); omega
theorem RM.put {l : List Kd} {m : Mp} (h : RM l m) {k : Kd} (ho : KO k) (h8 : k.1 ≤ 8) : RM (putK k l) (mput k.1 k m) := by
  refine ⟨h.w.put ho.1 h8, fun w hw => ?_, fun id => ?_, ?_⟩
  · rcases putK_mem k l w hw with rfl | hw
    · exact ho
    · exact h.o w hw
  · rw [findK_put h.w, mhas_mput, mget_mput, h.f id]
    by_cases e : id = k.1
    · simp [e]
    · simp [e]
  · rw [putK_len h.w, mput_len, h.n, h.f k.1]
theorem law_aux (N : Nat) (hN : 2000 ≤ N) (hbeg : W_law6_begun N () = some true) (l : List Kd) (hl : ∀ w ∈ l, (0 ≤ w.1 ∧ w.1 ≤ 255) ∧ (0 ≤ w.2.1 ∧ w.2.1 ≤ 255) ∧ 0 ≤ w.2.2 ∧ w.2.2 ≤ 255) (now : Int) (hnow : 0 ≤ now ∧ now ≤ 255) :
    W_law6_KidsHeard N (l, now) = some true := by
  unfold W_law6_KidsHeard V_law6_KidsHeard
  try simp only
  rw [hbeg, obind_s, Bool.not_true, cnd_f]
  by_cases c1 : (20 : Int) < l.length
  · rw [cnd_T c1]
  rw [cnd_F c1]
  refine loop_G (σ := List Kd × Int × Mp) (ρ := (List Kd × Mp) ⊕ Bool) (β := Bool) (· = some true) (fun i v => v.2.1 = i ∧ i ≤ l.length ∧ RM v.1 v.2.2) l.length (fun r => ∃ b : List Kd × Mp, r = .inl b ∧ RM b.1 b.2) ⟨rfl, Nat.zero_le _, trivial, fun k hk => absurd hk (by simp), fun id => rfl, rfl⟩ (by omega) ?_ (fun k v h => h.2.1) ?_
  · rintro r ⟨⟨X, m⟩, rfl, hm⟩
    simp only at hm
    simp only [selim]
    have hX := hm.len
    rw [May_eq N hN X hm.w hm.o (by omega), obind_s, Bool.not_true, cnd_f, cnd_F (show ¬ ((X.length : Int) ≠ (m.length : Int)) by rw [hm.n]; exact fun h => h rfl), wr_m (z := now) (by omega) (by omega),
      prune_eq N hN X now (by omega) (by omega) (by omega), obind_s]
    have hpw := hm.w.filter (fun k => !decide (k.2.2 < now - 20))
    have hpl : (X.filter (fun k => !decide (k.2.2 < now - 20))).length ≤ 8 := by have := hpw.len (by omega); omega
    refine loop_G (σ := Int × Mp) (ρ := PUnit ⊕ Bool) (β := Bool) (· = some true) (fun i v => v.1 = i + 1 ∧ i ≤ 8 ∧ v.2 = m) 8 (fun r => r = .inl ()) ⟨rfl, by omega, rfl⟩ (by omega) ?_ (fun k v h => h.2.1) ?_
    · rintro r rfl
      simp only [selim]
      rw [May_eq N hN _ hpw (fun k hk => hm.o k (List.mem_filter.1 hk).1) (by omega), obind_s]
    · rintro i ⟨id, M⟩ ⟨hid, hi, hM⟩
      simp only at hid hi hM ⊢
      subst hM
      by_cases hc : id ≤ 8
      · left
        rw [cnd_T hc, find_eq N hN X id 1 hm.w (by omega), obind_s, find_eq N hN _ id 1 hpw (by omega), obind_s, hm.f id, findK_filter _ hm.w id, hm.f id, wr_m (z := id + 1) (by omega) (by omega)]
        try simp only
        have hnx : (id + 1, M) = (((i : Int) + 1) + 1, M) := by rw [hid]
        cases hh : mhas id M with
        | false =>
          simp only [beq_self_eq_true, Bool.not_true, cnd_f, obind_s, Bool.false_and]
          exact ⟨_, rfl, by simp only; omega, by omega, rfl⟩
        | true =>
          have hmem : KO (mget kD id M) := by
            have h1 := hm.f id
            rw [hh] at h1
            have key : ∀ (q : List Kd), (findK q id).1 = true → (findK q id).2 ∈ q := by
              intro q
              induction q with
              | nil => simp [findK]
              | cons w r ih =>
                simp only [findK]
                split
                · simp
                · intro h; exact List.mem_cons_of_mem _ (ih h)
            have := key X (by rw [h1])
            rw [h1] at this
            exact hm.o _ this
          obtain ⟨z1, z2, z3, z4, z5⟩ := hmem
          generalize hg : mget kD id M = g at *
          obtain ⟨ga, gb, gc⟩ := g
          simp only at z1 z2 z3 z4 z5
          simp only [beq_self_eq_true, Bool.not_true, cnd_f, cnd_t, decide_true, Bool.and_self, obind_s, Bool.true_and]
          rw [wr_m (z := now - gc) (by omega) (by omega)]
          have e : (!decide (gc < now - 20)) = decide (now - gc ≤ 20) := by
            by_cases q : gc < now - 20
            · rw [dT q, dF (show ¬ now - gc ≤ 20 by omega)]; rfl
            · rw [dF q, dT (show now - gc ≤ 20 by omega)]; rfl
          rw [e]
          simp only [beq_self_eq_true, Bool.not_true, cnd_f]
          exact ⟨_, rfl, by simp only; omega, by omega, rfl⟩
      · right
        rw [cnd_F hc]
        exact ⟨_, rfl, rfl⟩
  · rintro i ⟨X, q, m⟩ ⟨hq, hi, hm⟩
    simp only at hq hi hm ⊢
    subst hq
    by_cases hc : i < l.length
    · left
      have e : (decide ((0 : Int) ≤ (i : Int)) && decide ((i : Int) < (l.length : Int))) = true := by rw [dT (show (0 : Int) ≤ (i : Int) by omega), dT (show (i : Int) < (l.length : Int) by omega)]; rfl
      rw [cnd_T (show (i : Int) < (l.length : Int) by omega), Int.toNat_natCast, e, cnd_t, cnd_t, cnd_t, wr_m (z := (i : Int) + 1) (by omega) (by omega)]
      obtain ⟨⟨a0, a1⟩, ⟨b0, b1⟩, c0, c2⟩ := hl _ (getD_memK hc)
      generalize l.getD i kD = u at a0 a1 b0 b1 c0 c2 ⊢
      obtain ⟨ua, ub, uc⟩ := u
      simp only at a0 a1 b0 b1 c0 c2 ⊢
      have t1 := Int.tmod_nonneg 8 a0
      have t2 := Int.tmod_lt_of_pos ua (show (0 : Int) < 8 by omega)
      have t3 := Int.tmod_nonneg 3 b0
      have t4 := Int.tmod_lt_of_pos ub (show (0 : Int) < 3 by omega)
      have t5 := Int.tmod_nonneg 50 c0
      have t6 := Int.tmod_lt_of_pos uc (show (0 : Int) < 50 by omega)
      rw [wr_m (z := Int.tmod ua 8) (by omega) (by omega), wr_m (z := 1 + Int.tmod ua 8) (by omega) (by omega), wr_m (z := Int.tmod ub 3) (by omega) (by omega), wr_m (z := 1 + Int.tmod ub 3) (by omega) (by omega), wr_m (z := Int.tmod uc 50) (by omega) (by omega)]
      obtain ⟨k, hk⟩ : ∃ k : Kd, k = (1 + Int.tmod ua 8, 1 + Int.tmod ub 3, Int.tmod uc 50) := ⟨_, rfl⟩
      have ko : KO k := by subst hk; exact ⟨by show (1 : Int) ≤ 1 + Int.tmod ua 8; omega, by show (1 : Int) ≤ 1 + Int.tmod ub 3; omega, by show 1 + Int.tmod ub 3 ≤ 3; omega, t5, by show Int.tmod uc 50 ≤ 49; omega⟩
      have k8 : k.1 ≤ 8 := by subst hk; show 1 + Int.tmod ua 8 ≤ 8; omega
      have k1 : 1 + Int.tmod ua 8 = k.1 := by rw [hk]
      have k2 : 1 + Int.tmod ub 3 = k.2.1 := by rw [hk]
      have k3 : Int.tmod uc 50 = k.2.2 := by rw [hk]
      rw [k1, k2, k3, hear_eq N hN X 1 k hm.w (by have := hm.len; omega), obind_s]
      have ho : oldK X k.1 k.2.1 = (mhas k.1 m && decide (k.2.1 < (mget kD k.1 m).2.1)) := by unfold oldK; rw [hm.f]
      have hput := hm.put ko k8
      cases hh : mhas k.1 m with
      | false =>
        rw [hh] at ho
        simp only [Bool.false_and] at ho
        rw [ho]
        simp only [Bool.false_eq_true, if_false, Bool.not_false, cnd_t, beq_self_eq_true, Bool.not_true, cnd_f]
        exact ⟨_, rfl, by simp only; omega, by omega, hput⟩
      | true =>
        rw [hh] at ho
        simp only [Bool.true_and] at ho
        rw [ho]
        simp only [Bool.not_true, cnd_f]
        by_cases c2 : k.2.1 < (mget kD k.1 m).2.1
        · have e2 : decide ((mget kD k.1 m).2.1 ≤ k.2.1) = false := dF (by omega)
          simp only [c2, decide_true, if_true, e2, beq_self_eq_true, Bool.not_true, cnd_f]
          exact ⟨_, rfl, by simp only; omega, by omega, hm⟩
        · have e2 : decide ((mget kD k.1 m).2.1 ≤ k.2.1) = true := dT (by omega)
          simp only [c2, decide_false, Bool.false_eq_true, if_false, e2, beq_self_eq_true, Bool.not_true, cnd_f, cnd_t]
          exact ⟨_, rfl, by simp only; omega, by omega, hput⟩
    · right
      rw [cnd_F (show ¬ (i : Int) < (l.length : Int) by omega)]
      exact ⟨_, rfl, _, rfl, hm⟩
def NN : Nat := 2000
theorem begun_ok : W_law6_begun NN () = some true := by decide +kernel
theorem law_true (y0 : List (Int × Int × Int)) (y1 : Int) (h0 : Twf (.list (.agg (.pair (.int .u8) (.pair (.int .u8) (.int .u8))))) y0) (h1 : Twf (.int .u8) y1) : W_law6_KidsHeard NN (y0, y1) = some true :=
  law_aux NN (Nat.le_refl _) begun_ok y0 (fun w hw => h0.2 w hw) y1 h1

theorem spec (y0 : List (Int × Int × Int)) (y1 : Int) (h0 : Twf (.list (.agg (.pair (.int .u8) (.pair (.int .u8) (.int .u8))))) y0) (h1 : Twf (.int .u8) y1) : Spec2 P0 3 [valW (.list (.agg (.pair (.int .u8) (.pair (.int .u8) (.int .u8))))) y0, valW (.int .u8) y1] [] (.bs true) [] [] := (con_law6_KidsHeard_ok NN).2 (y0, y1) true (law_true y0 y1 h0 h1)
theorem lifted (os : Os) (started : os.Started) (H : Type) (enc : TypeId × Value → H) :
    ReturnsInHanded {} Try.checked os 3 .any (Rows.kidsHeardSpec.pre6 enc Try.prog Try.f3 Rows.kidsHeardRow.domain false) (Rows.kidsHeardSpec.post enc Try.prog Try.f3 false true false false) := by
  refine returnsInHanded_of_change (C := Try.checked) own started (by kernel_rfl) Try.func3
    (ChangeSpec.witness6 (enc := enc) (C := Try.checked) false ⟨#[], #[.slice none 0 0, .int .u8 0], []⟩ 8 (by kernel_rfl) (by kernel_rfl) (by kernel_rfl) (by kernel_rfl)) ?_
  intro W base args ds gs before hval0 hW hcnd _
  have hval : ∀ (j : Nat) t v, Try.f3.params[j]? = some t → args[j]? = some v → Value.okWide Try.prog W .any base t v := hval0
  have hW' := hW
  obtain ⟨p, q, hA0, hV, rfl, hfz, hnd⟩ := hW
  have hA : DataW.TrodAll enc Try.prog W 0 (fun _ => true) true Try.f3.params.toList args.toList ds p := hA0
  rw [Try.params3] at hA hval
  obtain ⟨v0, vs0, d0, ds0, p0, q0, hargs, rfl, rfl, h0, r0⟩ := trodAll_cons hA
  obtain ⟨v1, vs1, d1, ds1, p1, q1, rfl, rfl, rfl, h1, r1⟩ := trodAll_cons r0
  obtain ⟨rfl, rfl, rfl⟩ := trodAll_nil r1
  obtain rfl : args = #[v0, v1] := by cases args; simp_all
  obtain ⟨rfl, rfl⟩ := trodVars_none hV
  have k0 := h0
  have lt0 : ∀ x ∈ p0, x.block < W.heap.size := by obtain ⟨m, hm⟩ := k0; exact DataW.trod_lt m _ _ _ hm
  obtain ⟨y0, rp0, wf0⟩ := arg_ok (n := 12) (ty := (.list (.agg (.pair (.int .u8) (.pair (.int .u8) (.int .u8)))))) (by kernel_rfl) (hval 0 _ v0 rfl rfl) h0
  have k1 := h1
  have lt1 : ∀ x ∈ p1, x.block < W.heap.size := by obtain ⟨m, hm⟩ := k1; exact DataW.trod_lt m _ _ _ hm
  obtain ⟨y1, rp1, wf1⟩ := arg_ok (n := 12) (ty := (.int .u8)) (by kernel_rfl) (hval 1 _ v1 rfl rfl) h1
  clear hA0 hval0
  refine (law_of2 (spec y0 y1 wf0 wf1) W #[v0, v1] (.cons rp0 (.cons rp1 .nil))).mono fun e W' ⟨he, bel⟩ => ?_
  subst he
  exact ⟨_, rfl, _, _, _, [], _, [], hW', trodAll_mk1 (shut_bool Try.underlying4 _), (trodAll_cons_mk (Below.trod laidOut (by kernel_rfl) (of_decide_eq_true (by kernel_rfl)) k0 bel lt0) (trodAll_cons_mk (Below.trod laidOut (by kernel_rfl) (of_decide_eq_true (by kernel_rfl)) k1 bel lt1) trodAll_mk0)), rfl, bel.frame _, fun h => by cases h⟩

theorem over : Rows.kidsHeardRow.holds Try.pinned (OpenSpec.ofChange Rows.kidsHeardSpec) :=
  OpenClaim.holds_of_wide 3 Try.f3 rfl rfl rfl rfl rfl rfl rfl ⟨rfl, rfl, rfl, rfl, rfl⟩ rfl rfl rfl rfl rfl (by kernel_rfl) Try.func3 (by kernel_rfl)
    (of_decide_eq_true (by kernel_rfl)) (by unfold Func.isWrapper; first | (rw [if_pos (by decide +kernel)]; kernel_rfl) | (rw [if_neg (by decide +kernel)]; exact ⟨rfl, rfl⟩))
    (fun os started H enc _ => lifted os started H enc)

theorem holds : Rows.KidsHeardSaid := over
end Go.Proofs.Ytcpbafjaalofbaa.kidsHeardX
