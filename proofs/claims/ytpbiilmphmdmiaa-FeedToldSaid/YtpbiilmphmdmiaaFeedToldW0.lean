/- FeedTold: for all arguments the call returns true. The law is brought to a function of Lean's own (W_..) by the machine of the texts beside it, and that is reckoned; no condition. -/
import Derived.Test.YtpbiilmphmdmiaaExtFt
import Derived.Test.YtpbiilmphmdmiaaExtIn
import Derived.Test.YtpbiilmphmdmiaaExtDl
import Derived.Test.YtpbiilmphmdmiaaExtCm
import Derived.Test.YtpbiilmphmdmiaaRows
import Derived.WalkKit
import Derived.ProofKit
import Derived.OpenShut
import Derived.ShutString
import Derived.ChangeOld
import Derived.Below
import Derived.Shelf.RegionOpenPlain
import Derived.Deep.RegionLaw
import Derived.Lib.Walk
namespace Go.Proofs.Ytpbiilmphmdmiaa.feedToldX
open Go.Abs Go.RowKit Go.ChangeShapes Go.WideShapes Go.ChangeAt
set_option maxRecDepth 100000
set_option linter.unusedVariables false
set_option linter.unusedSimpArgs false
noncomputable abbrev P0 : Program := Try.prog
noncomputable def bodyOf (fn : Func) : Code := fn.body.getD .skip
def L0 : Lend := fun f => aget [] [(39, [0]), (46, [0])] f
def kpL (l : List Bool) : Nat → Bool := fun j => l.getD j true
theorem own : ownKnob Try.prog.godebug = none := by kernel_rfl
theorem laidOut : laidOutB Try.prog = true := by kernel_rfl
theorem mixed : P0.follows .mixedOrders = true := by decide +kernel
theorem progOk_ : progOk P0 = true := by decide +kernel

theorem delU46 : Try.prog.underlying 24 = some (.slice 43) := by kernel_rfl
theorem delE46 : ∃ (inf : TypeInfo) (z : Value), Try.prog.info? 43 = some inf ∧ inf.size = 2 ∧ inf.zero = some z ∧ z.cells.size = 2 ∧ (∀ u ∈ z.cells.toList, u.oneCell' = true) := delE_of (by kernel_rfl)
set_option maxHeartbeats 4000000 in
theorem delW46 {inf : TypeInfo} {z : Value} (hinf : Try.prog.info? 43 = some inf) (hsz : inf.size = 2) (hzz : inf.zero = some z) (hzs : z.cells.size = 2) (hz1 : ∀ u ∈ z.cells.toList, u.oneCell' = true) (w : World) (b i k c : Nat) (arr : Array Value) (tb : Nat) (fz : Nat × Nat) (cs : List Value) (hmem : w.heap[b]? = some (.cells arr tb fz)) (hf : ∀ j, j < arr.size → ¬ (fz.1 ≤ j ∧ j < fz.2))
    (hi : i < k + 1) (hnc : k + 1 ≤ c) (hn : k + 1 ≤ 140737488355328) (hsize : arr.size = c * 2) (hcs : cs = (arr.toList.take ((k + 1) * 2)).drop ((i + 1) * 2)) (h1c : ∀ u ∈ cs, u.oneCell' = true) (A1 A2 : Array Value)
    (hA1 : A1 = (arr.toList.take (i * 2) ++ (cs ++ arr.toList.drop (i * 2 + cs.length))).toArray) (hA2 : A2 = (A1.toList.take (k * 2) ++ (z.cells.toList ++ A1.toList.drop (k * 2 + z.cells.toList.length))).toArray) :
    Calls Try.prog 46 #[.slice (some ⟨b, 0, none⟩) (k + 1) c, .int .i64 (i : Nat), .int .i64 ((i : Int) + 1)] w fun e w' => e = .returned (.slice (some ⟨b, 0, none⟩) k c) ∧ w' = (w.drew.setRow b A1).setRow b A2 := by
  have mixed := mixed
  have hz2 : ¬ ((i : Int) = (i : Int) + 1) := by omega
  have hcl : cs.length = (k - i) * 2 := by rw [hcs]; simp; omega
  have hA1s : A1.size = arr.size := by rw [hA1]; simp [hcl]; omega
  obtain ⟨Ad, hA, hsrc⟩ : ∃ Ad : Addr, (if c = i + 1 then (some ⟨b, 0, none⟩ : Option Addr) else some ⟨b, (i + 1) * 2, none⟩) = some Ad ∧ (∀ (t : Nat) (u : Value), cs[t]? = some u → w.drew.cell? (Ad.add t) = some u) := by
    by_cases h : c = i + 1
    · refine ⟨⟨b, 0, none⟩, by simp [h], fun t u hu => ?_⟩
      have h0 : cs = [] := List.eq_nil_of_length_eq_zero (by rw [hcl, show k - i = 0 by omega, Nat.zero_mul])
      rw [h0] at hu; simp at hu
    · refine ⟨⟨b, (i + 1) * 2, none⟩, by simp [h], fun t u hu => ?_⟩
      rw [hcs, List.getElem?_drop, List.getElem?_take] at hu
      split at hu
      · rw [Addr.add_lit]
        have e : w.drew.cell? ⟨b, (i + 1) * 2 + t, none⟩ = arr[(i + 1) * 2 + t]? := by simp [World.cell?, show w.drew.heap = w.heap from rfl, hmem]
        rw [e]; simpa using hu
      · cases hu
  obtain ⟨W1, hW1⟩ : ∃ W1, W1 = w.drew.setRow b A1 := ⟨_, rfl⟩
  have hm1 : W1.heap[b]? = some (.cells A1 tb fz) := by rw [hW1]; exact setRow_heap w.drew b arr A1 tb fz hmem
  have hap : ∀ ty m' c', m' = k - i → (Builtin.append_ #[24, 24] ty #[.slice (some ⟨b, 0, none⟩) i c, .slice (some Ad) m' c']).run Try.prog w.drew = .ok (.slice (some ⟨b, 0, none⟩) k c) W1 := fun ty m' c' hm => by
    subst hm
    have h := run_appendR (P := Try.prog) delU46 hinf w.drew hmem hf i c ty Ad (k - i) c' cs (by rw [hsz]; exact hcl) hsrc h1c (by omega) (by rw [hsize, hsz])
    rw [hsz] at h
    rw [h, hW1, hA1, show i + (k - i) = k by omega]
  have hclr : ∀ ty m' c', m' = 1 → (Builtin.clear_ #[24] ty #[.slice (some ⟨b, k * 2, none⟩) m' c']).run Try.prog W1 = .ok (.tuple #[]) (W1.setRow b A2) := fun ty m' c' hm => by
    subst hm
    rw [hA2]
    exact run_clearR (P := Try.prog) delU46 hinf hzz W1 hm1 (by rw [hA1s]; exact hf) (k * 2) c' ty hz1 (by simp [hzs]; rw [hA1s, hsize]; omega)
  have hic : i ≤ c := by omega
  have hjc : i + 1 ≤ c := by omega
  have hb3 : ¬ (c = k) := by omega
  have hb1 : (0 : Int) ≤ (i : Int) + 1 := by omega
  have hb4 : ((k + 1 : Nat) : Int) = (k : Int) + 1 := by omega
  have hb5 : (0 : Int) ≤ (k : Int) := by omega
  have hb6 : (k : Int) ≤ (k : Int) + 1 := by omega
  have hb7 : (k : Int) + 1 ≤ (c : Int) := by omega
  have hb8 : (i : Int) + 1 ≤ (k : Int) + 1 := by omega
  have hb2 : (i : Int) + 1 ≤ ((k + 1 : Nat) : Int) := by omega
  rw [← hW1]
  clear hcs hA1 hA2 hW1 hm1 hsrc hcl
  go_enter Try.func46, Try.ntmps46
  go_wp2_with fail
  go_region_law_o (refine step_append_runR rfl _ _ 24 24 rfl (.slice (some ⟨b, 0, none⟩) i c) (.slice (some Ad) (k - i) (c - (i + 1))) (by simp [Act.eval, Act.put]) (by simp [Act.eval, Act.put]) (hap _ _ _ rfl) ?_)
  go_wp2
  go_ret
  exact ⟨rfl, rfl⟩
theorem delF46 : DelF Try.prog 46 2 := by
  intro w b i n c arr tb fz hmem hsize hf h1c hi hnc hn
  obtain ⟨inf, z, hinf, hsz, hzz, hzs, hz1⟩ := delE46
  obtain ⟨k, rfl⟩ : ∃ k, n = k + 1 := ⟨n - 1, by omega⟩
  simp only [Nat.add_sub_cancel]
  obtain ⟨cs, hcs⟩ : ∃ cs, cs = (arr.toList.take ((k + 1) * 2)).drop ((i + 1) * 2) := ⟨_, rfl⟩
  have hsl : arr.toList.length = arr.size := Array.length_toList
  have hcl : cs.length = (k - i) * 2 := by rw [hcs, List.length_drop, List.length_take, hsl, hsize]; omega
  have hzl : z.cells.toList.length = 2 := by rw [Array.length_toList, hzs]
  refine (delW46 hinf hsz hzz hzs hz1 w b i k c arr tb fz cs hmem hf hi hnc hn hsize hcs (fun u hu => h1c u (by rw [hcs] at hu; exact List.mem_of_mem_drop hu)) _ _ rfl rfl).mono fun x w' => ?_
  rintro ⟨rfl, rfl⟩
  have hA1s : (arr.toList.take (i * 2) ++ (cs ++ arr.toList.drop (i * 2 + cs.length))).toArray.size = arr.size := by simp [hcl]; omega
  have hm1 := setRow_heap w.drew b arr (arr.toList.take (i * 2) ++ (cs ++ arr.toList.drop (i * 2 + cs.length))).toArray tb fz hmem
  have hA1t : (arr.toList.take (i * 2) ++ (cs ++ arr.toList.drop (i * 2 + cs.length))).toArray.toList.take (k * 2) = arr.toList.take (i * 2) ++ cs := by
    rw [List.toList_toArray, ← List.append_assoc]
    exact List.take_left' (by rw [List.length_append, List.length_take, hcl, hsl, hsize]; omega)
  generalize hA1 : (arr.toList.take (i * 2) ++ (cs ++ arr.toList.drop (i * 2 + cs.length))).toArray = A1 at *
  have hA1l : A1.toList.length = A1.size := Array.length_toList
  have hA2s : (A1.toList.take (k * 2) ++ (z.cells.toList ++ A1.toList.drop (k * 2 + z.cells.toList.length))).toArray.size = A1.size := by simp only [List.size_toArray, List.length_append, List.length_take, List.length_drop, hzl, hA1l, hA1s, hsize]; omega
  have hm2 := setRow_heap (w.drew.setRow b A1) b A1 (A1.toList.take (k * 2) ++ (z.cells.toList ++ A1.toList.drop (k * 2 + z.cells.toList.length))).toArray tb fz hm1
  refine ⟨rfl, rfl, rfl, rfl, _, hm2, by rw [hA2s, hA1s], ?_, by simp [World.setRow], fun j hj => ?_⟩
  · rw [List.toList_toArray, List.take_left' (by rw [List.length_take, hA1l, hA1s, hsize]; omega), hA1t, hcs]
  · rw [setRow_other _ _ _ _ hj, setRow_other _ _ _ _ hj]; rfl

set_option linter.unusedSimpArgs false
set_option linter.unusedVariables false

theorem iqU39 : Try.prog.underlying 24 = some (.slice 43) := by kernel_rfl
theorem iqI39 : Try.prog.underlying 3 = some (.int .i64) := by kernel_rfl
theorem iqE39 : ∃ (inf : TypeInfo) (z : Value), Try.prog.info? 43 = some inf ∧ inf.size = 2 ∧ inf.zero = some z ∧ z.cells.size = 2 ∧ inf.bytes = 24 := insE_of (by kernel_rfl)
set_option maxHeartbeats 4000000 in
theorem iqShift39 {inf : TypeInfo} (hinf : Try.prog.info? 43 = some inf) (hsz : inf.size = 2) (w : World) (b i n c vb vo vc : Nat) (arr : Array Value) (tb : Nat) (fz : Nat × Nat) (cs vs : List Value) (hmem : w.heap[b]? = some (.cells arr tb fz)) (hf : ∀ j, j < arr.size → ¬ (fz.1 ≤ j ∧ j < fz.2))
    (hi : i < n) (hroom : n + 1 ≤ c) (hsize : arr.size = c * 2) (hby : (n + 1) * 24 ≤ 140737488355328) (hbn : vb ≠ b)
    (hcs : cs = (arr.toList.take (n * 2)).drop (i * 2)) (hvl : vs.length = 2) (hvs : ∀ (j : Nat) (u : Value), vs[j]? = some u → w.cell? ⟨vb, vo + j, none⟩ = some u) (h1c : ∀ u ∈ cs, u.oneCell' = true) (h1v : ∀ u ∈ vs, u.oneCell' = true)
    (hov : ∀ y, (callFunc 53 #[.slice (some ⟨vb, vo, none⟩) 1 vc, .slice (some ⟨b, (i + 1) * 2, none⟩) (n - i) y]).run Try.prog w = .ok (.value (.bool false)) w) (A1 A2 : Array Value)
    (hA1 : A1 = (arr.toList.take ((i + 1) * 2) ++ (cs ++ arr.toList.drop ((i + 1) * 2 + cs.length))).toArray) (hA2 : A2 = (A1.toList.take (i * 2) ++ (vs ++ A1.toList.drop (i * 2 + vs.length))).toArray) :
    Calls Try.prog 39 #[.slice (some ⟨b, 0, none⟩) n c, .int .i64 (i : Nat), .slice (some ⟨vb, vo, none⟩) 1 vc] w fun e w' => e = .returned (.slice (some ⟨b, 0, none⟩) (n + 1) c) ∧ w' = (w.drew.setRow b A1).setRow b A2 := by
  have mixed := mixed
  have hz2 : ¬ ((i : Int) = (n : Int)) := by omega
  have hw1 : IntKind.i64.wrap ((i : Int) + (1 : Int)) = (i : Int) + (1 : Int) := by rw [IntKind.wrap_i64]; omega
  have hw2 : IntKind.i64.wrap ((n : Int) + (1 : Int)) = (n : Int) + (1 : Int) := by rw [IntKind.wrap_i64]; omega
  have hcl : cs.length = (n - i) * 2 := by rw [hcs]; simp; omega
  have hA1s : A1.size = arr.size := by rw [hA1]; simp [hcl]; omega
  have hcp1 : ∀ ty dc sc, (Builtin.copy_ #[24, 24] ty #[.slice (some ⟨b, (i + 1) * 2, none⟩) (n - i) dc, .slice (some ⟨b, i * 2, none⟩) (n + 1 - i) sc]).run Try.prog w.drew = .ok (.int .i64 ((n - i : Nat) : Int)) (w.drew.setRow b A1) := fun ty dc sc => by
    rw [hA1]
    refine run_copyR iqU39 hinf w.drew (fz := fz) hmem hf _ _ _ (m := n + 1 - i) (k := n - i) (by omega) (lenOf_slice _ _ _ _) (run_firstCells_some w.drew _ _ _ _ _ _ (by rw [hsz]; exact hcl) (fun j v hj => ?_)) (by omega) h1c
    rw [hcs, List.getElem?_drop, List.getElem?_take] at hj
    split at hj
    · have : (⟨b, i * 2, none⟩ : Addr).add j = ⟨b, i * 2 + j, none⟩ := by unfold Addr.add; split <;> simp_all
      rw [this]
      have e : w.drew.cell? ⟨b, i * 2 + j, none⟩ = arr[i * 2 + j]? := by simp [World.cell?, show w.drew.heap = w.heap from rfl, hmem]
      rw [e]; simpa using hj
    · cases hj
  have hcp2 : ∀ (W : World), W.heap = (w.drew.setRow b A1).heap → ∀ ty dc, (Builtin.copy_ #[24, 24] ty #[.slice (some ⟨b, i * 2, none⟩) (n + 1 - i) dc, .slice (some ⟨vb, vo, none⟩) 1 vc]).run Try.prog W = .ok (.int .i64 ((1 : Nat) : Int)) (W.setRow b A2) := fun W hW ty dc => by
    rw [hA2]
    have hm1 : W.heap[b]? = some (.cells A1 tb fz) := by rw [hW]; exact setRow_heap w.drew b arr A1 tb fz hmem
    refine run_copyR iqU39 hinf W (fz := fz) hm1 (by rw [hA1s]; exact hf) _ _ _ (m := 1) (k := 1) (by omega) (lenOf_slice _ _ _ _) (run_firstCells_some W _ _ _ _ _ _ (by rw [hsz]; exact hvl) (fun j v hj => ?_)) (by omega) h1v
    have : (⟨vb, vo, none⟩ : Addr).add j = ⟨vb, vo + j, none⟩ := by unfold Addr.add; split <;> simp_all
    rw [this]
    have e : W.cell? ⟨vb, vo + j, none⟩ = w.cell? ⟨vb, vo + j, none⟩ := cell_congr (by rw [hW]; exact setRow_other w.drew b vb A1 hbn)
    rw [e]; exact hvs j v hj
  have hb1 : (0 : Int) ≤ (i : Int) + 1 := by omega
  have hin : i ≤ n := by omega
  have hb2 : ¬ (c = i + 1) := by omega
  have hb4 : ¬ (c = i) := by omega
  have hb3 : (i : Int) ≤ (n : Int) + 1 := by omega
  clear hcs hA1 hA2
  go_enter Try.func39, Try.ntmps39
  go_wp2_with (simp only [hov])
  go_region_law_o (refine step_copy_runR rfl _ _ 24 24 rfl _ _ (by simp [Act.eval, Act.put]) (by simp [Act.eval, Act.put]) (hcp1 _ _ _) ?_)
  go_wp2_with (at_builtin; refine wpList_copy_runR _ rfl _ _ 24 24 rfl _ _ rfl rfl (hcp2 _ rfl _ _) ?_)
  go_ret
  exact ⟨rfl, rfl⟩
set_option maxHeartbeats 4000000 in
theorem iqGrow39 {inf : TypeInfo} {z : Value} (hinf : Try.prog.info? 43 = some inf) (hsz : inf.size = 2) (hzz : inf.zero = some z) (hzs : z.cells.size = 2) (hbb : inf.bytes = 24) (w : World) (b i n c vb vo vc : Nat) (arr : Array Value) (tb : Nat) (fz : Nat × Nat) (cs vs : List Value) (hmem : w.heap[b]? = some (.cells arr tb fz))
    (hi : i < n) (hnc : n ≤ c) (hroom : ¬ (n + 1 ≤ c)) (hsize : arr.size = c * 2) (hby : (n + 1) * 24 ≤ 140737488355328) (va : Array Value) (tv : Nat) (fv : Nat × Nat) (hmemv : w.heap[vb]? = some (.cells va tv fv))
    (hcs : cs = (arr.toList.take (n * 2)).drop (i * 2)) (hvl : vs.length = 2) (hvs : ∀ (j : Nat) (u : Value), vs[j]? = some u → va[vo + j]? = some u) (h1c : ∀ u ∈ cs, u.oneCell' = true) (h1v : ∀ u ∈ vs, u.oneCell' = true)
    (G : Nat) (hG : G = grownCap w (n + 1) c 43) (ROW A1 A2 : Array Value)
    (hROW : ROW = (arr.toList.take (i * 2)).toArray ++ Builtin.zeroCells z.cells (n + 1 - i) ++ Builtin.zeroCells z.cells (G - (n + 1)))
    (hA1 : A1 = (ROW.toList.take (i * 2) ++ (vs ++ ROW.toList.drop (i * 2 + vs.length))).toArray) (hA2 : A2 = (A1.toList.take ((i + 1) * 2) ++ (cs ++ A1.toList.drop ((i + 1) * 2 + cs.length))).toArray) :
    Calls Try.prog 39 #[.slice (some ⟨b, 0, none⟩) n c, .int .i64 (i : Nat), .slice (some ⟨vb, vo, none⟩) 1 vc] w fun e w' => e = .returned (.slice (some ⟨w.heap.size, 0, none⟩) (n + 1) G) ∧ w' = (((w.drew.alloc (.cells ROW 43)).setRow w.heap.size A1).drew).setRow w.heap.size A2 := by
  have mixed := mixed
  have hz2 : ¬ ((i : Int) = (n : Int)) := by omega
  have hw1 : IntKind.i64.wrap ((i : Int) + (1 : Int)) = (i : Int) + (1 : Int) := by rw [IntKind.wrap_i64]; omega
  have hw2 : IntKind.i64.wrap ((n : Int) + (1 : Int)) = (n : Int) + (1 : Int) := by rw [IntKind.wrap_i64]; omega
  have hw3 : IntKind.i64.wrap ((n : Int) + (1 : Int) - (i : Int)) = (n : Int) + (1 : Int) - (i : Int) := by rw [IntKind.wrap_i64]; omega
  have hcl : cs.length = (n - i) * 2 := by rw [hcs]; simp; omega
  have hGn : n + 1 ≤ G := by rw [hG]; exact grownCap_ge w _ _ _
  have hbw : b < w.heap.size := (Array.getElem?_eq_some_iff.1 hmem).1
  have hvw : vb < w.heap.size := (Array.getElem?_eq_some_iff.1 hmemv).1
  have hzc : ∀ k, (Builtin.zeroCells z.cells k).size = k * 2 := fun k => by rw [size_zeroCells, hzs]
  have hRs : ROW.size = G * 2 := by
    rw [hROW]; simp only [Array.size_append, hzc, List.size_toArray, List.length_take, Array.length_toList]; omega
  have hA1s : A1.size = ROW.size := by rw [hA1]; simp [hvl]; omega
  have hold : (Builtin.firstCells inf.size i (.slice (some ⟨b, 0, none⟩) i c)).run Try.prog w.drew = .ok (arr.toList.take (i * 2)).toArray w.drew := by
    rw [hsz]
    refine run_firstCells_some w.drew 2 i ⟨b, 0, none⟩ i c (arr.toList.take (i * 2)) (by rw [List.length_take]; simp; omega) (fun j v hj => ?_)
    rw [List.getElem?_take] at hj
    split at hj
    · have : (⟨b, 0, none⟩ : Addr).add j = ⟨b, j, none⟩ := by unfold Addr.add; split <;> simp_all
      rw [this]
      have e : w.drew.cell? ⟨b, j, none⟩ = arr[j]? := by simp [World.cell?, show w.drew.heap = w.heap from rfl, hmem]
      rw [e]; simpa using hj
    · cases hj
  have hik : i + (n + 1 - i) = n + 1 := by omega
  have hkk : (n : Int) + 1 - (i : Int) = ((n + 1 - i : Nat) : Int) := by omega
  obtain ⟨W1, hW1⟩ : ∃ W1, W1 = w.drew.alloc (.cells ROW 43) := ⟨_, rfl⟩
  have hrz : ∀ ty, (Builtin.append_ #[24, 3] ty #[.slice (some ⟨b, 0, none⟩) i c, .int .i64 ((n : Int) + 1 - (i : Int))]).run Try.prog w = .ok (.slice (some ⟨w.heap.size, 0, none⟩) (n + 1) G) W1 := fun ty => by
    have hnx := nextslicecap_le (need := n + 1) (old := c) (by omega)
    have h := Lib.run_append_grow_zeros w 24 3 ty 43 inf z .i64 .i64 iqU39 iqI39 hinf hzz (some ⟨b, 0, none⟩) i c (arr.toList.take (i * 2)) hold (n + 1 - i) (by omega) (by omega) (by omega) (by omega) (by rw [hbb]; omega) (by rw [hbb, hik]; omega)
    rw [hik, ← hG, ← hROW, ← hW1] at h
    rw [hkk]
    exact h
  have hWn : W1.heap[w.heap.size]? = some (.cells ROW 43 (0, 0)) := by rw [hW1]; exact heap_alloc_new w.drew _
  have hWo : ∀ j, j < w.heap.size → W1.heap[j]? = w.heap[j]? := fun j hj => by rw [hW1]; exact heap_alloc_old w.drew _ hj
  have hcp1 : ∀ (W : World), W.heap = W1.heap → ∀ ty dc, (Builtin.copy_ #[24, 24] ty #[.slice (some ⟨w.heap.size, i * 2, none⟩) (n + 1 - i) dc, .slice (some ⟨vb, vo, none⟩) 1 vc]).run Try.prog W = .ok (.int .i64 ((1 : Nat) : Int)) (W.setRow w.heap.size A1) := fun W hW ty dc => by
    rw [hA1]
    refine run_copyR iqU39 hinf W (fz := (0, 0)) (by rw [hW]; exact hWn) (fun j _ hj => by simp at hj) _ _ _ (m := 1) (k := 1) (by omega) (lenOf_slice _ _ _ _) (run_firstCells_some W _ _ _ _ _ _ (by rw [hsz]; exact hvl) (fun j v hj => ?_)) (by omega) h1v
    have : (⟨vb, vo, none⟩ : Addr).add j = ⟨vb, vo + j, none⟩ := by unfold Addr.add; split <;> simp_all
    rw [this]
    have e : W.cell? ⟨vb, vo + j, none⟩ = va[vo + j]? := by simp [World.cell?, hW, hWo vb hvw, hmemv]
    rw [e]; exact hvs j v hj
  have hcp2 : ∀ (W : World), W.heap = (W1.setRow w.heap.size A1).heap → ∀ ty dc sc, (Builtin.copy_ #[24, 24] ty #[.slice (some ⟨w.heap.size, (i + 1) * 2, none⟩) (n - i) dc, .slice (some ⟨b, i * 2, none⟩) (n - i) sc]).run Try.prog W = .ok (.int .i64 ((n - i : Nat) : Int)) (W.setRow w.heap.size A2) := fun W hW ty dc sc => by
    rw [hA2]
    have hm1 : W.heap[w.heap.size]? = some (.cells A1 43 (0, 0)) := by rw [hW]; exact setRow_heap W1 w.heap.size ROW A1 43 (0, 0) hWn
    refine run_copyR iqU39 hinf W (fz := (0, 0)) hm1 (fun j _ hj => by simp at hj) _ _ _ (m := n - i) (k := n - i) (by omega) (lenOf_slice _ _ _ _) (run_firstCells_some W _ _ _ _ _ _ (by rw [hsz]; exact hcl) (fun j v hj => ?_)) (by omega) h1c
    rw [hcs, List.getElem?_drop, List.getElem?_take] at hj
    split at hj
    · have : (⟨b, i * 2, none⟩ : Addr).add j = ⟨b, i * 2 + j, none⟩ := by unfold Addr.add; split <;> simp_all
      rw [this]
      have e : W.cell? ⟨b, i * 2 + j, none⟩ = arr[i * 2 + j]? := by
        have e1 : W.heap[b]? = w.heap[b]? := by rw [hW, setRow_other W1 w.heap.size b A1 (by omega)]; exact hWo b hbw
        simp [World.cell?, e1, hmem]
      rw [e]; simpa using hj
    · cases hj
  have hb1 : (0 : Int) ≤ (i : Int) + 1 := by omega
  have hin : i ≤ n := by omega
  have hb2 : ¬ (G = i + 1) := by omega
  have hb4 : ¬ (c = i) := by omega
  have hb5 : ¬ (G = i) := by omega
  have hb3 : (i : Int) ≤ (n : Int) + 1 := by omega
  have hb6 : (c : Int) < (n : Int) + 1 := by omega
  have hb7 : i ≤ c := by omega
  rw [← hW1]
  clear hG hcs hA1 hA2 hW1 hold hROW hWn hWo hik hkk
  go_enter Try.func39, Try.ntmps39
  go_wp2_with (first
    | (at_builtin; refine Lib.wpList_append_run _ rfl _ _ _ _ rfl _ _ rfl rfl _ _ (hrz _) ?_)
    | (at_builtin; refine wpList_copy_runR _ rfl _ _ 24 24 rfl _ _ rfl rfl (hcp1 _ (by exact rfl) _ _) ?_))
  have hF : ((W1.setRow w.heap.size A1).drew).heap = (W1.setRow w.heap.size A1).heap := rfl
  go_region_law_o (refine step_copy_runR rfl _ _ 24 24 rfl (.slice (some ⟨w.heap.size, (i + 1) * 2, none⟩) (n - i) (G - (i + 1))) (.slice (some ⟨b, i * 2, none⟩) (n - i) (c - i)) (by simp [Act.eval, Act.put]) (by simp [Act.eval, Act.put]) (hcp2 _ hF 3 (G - (i + 1)) (c - i)) ?_)
  go_wp2
  go_ret
  exact ⟨rfl, rfl⟩
theorem insP39 : InsP Try.prog 39 43 2 24 := by
  intro w b i n c vb vo vc arr va tb tv fz fv vs hmem hsize hf hmemv hbn hvl hvs h1v h1c hi hnc hby
  obtain ⟨inf, z, hinf, hsz, hzz, hzs, hbb⟩ := iqE39
  obtain ⟨cs, hcs⟩ : ∃ cs, cs = (arr.toList.take (n * 2)).drop (i * 2) := ⟨_, rfl⟩
  have h1 : ∀ u ∈ cs, u.oneCell' = true := fun u hu => h1c u (by rw [hcs] at hu; exact List.mem_of_mem_drop hu)
  have hcl : cs.length = (n - i) * 2 := by rw [hcs]; simp; omega
  by_cases hroom : n + 1 ≤ c
  · have hvo : vo < va.size := by
      have := hvs 0 vs[0] (List.getElem?_eq_getElem (by omega))
      have := (Array.getElem?_eq_some_iff.1 this).1
      omega
    have hov : ∀ y, (callFunc 53 #[.slice (some ⟨vb, vo, none⟩) 1 vc, .slice (some ⟨b, (i + 1) * 2, none⟩) (n - i) y]).run Try.prog w = .ok (.value (.bool false)) w := fun y => by
      rw [run_callFunc_extern Try.func53 (by kernel_rfl) (by kernel_rfl) (by kernel_rfl) (e := Extern.SlicesOverlaps.overlaps #[24, 24] #[4]) (by kernel_rfl),
        overlaps_apart2 w 24 4 43 iqU39 2 (fun w => by rw [run_size hinf, hsz]) ⟨vb, vo, none⟩ ⟨b, (i + 1) * 2, none⟩ 1 vc (n - i) y hbn tv tb va.size arr.size (by simp [World.shape?, hmemv]) (by simp [World.shape?, hmem]) (by omega)
          (by have := hf ((i + 1) * 2) (by omega); simp only [World.frozen?, hmem]; simp; omega) (by have := hf arr.size (Nat.le_refl _); simp only [World.frozen?, hmem]; simp; omega)]
      rfl
    refine (iqShift39 hinf hsz w b i n c vb vo vc arr tb fz cs vs hmem (fun j hj => hf j (by omega)) hi hroom hsize hby hbn hcs hvl (fun j u hj => by simpa [World.cell?, hmemv] using hvs j u hj) h1 h1v hov _ _ rfl rfl).mono fun x w' => ?_
    rintro ⟨rfl, rfl⟩
    have hA1s : (arr.toList.take ((i + 1) * 2) ++ (cs ++ arr.toList.drop ((i + 1) * 2 + cs.length))).toArray.size = arr.size := by simp [hcl]; omega
    have hm1 := setRow_heap w.drew b arr (arr.toList.take ((i + 1) * 2) ++ (cs ++ arr.toList.drop ((i + 1) * 2 + cs.length))).toArray tb fz hmem
    generalize hA1 : (arr.toList.take ((i + 1) * 2) ++ (cs ++ arr.toList.drop ((i + 1) * 2 + cs.length))).toArray = A1 at *
    have hA2s : (A1.toList.take (i * 2) ++ (vs ++ A1.toList.drop (i * 2 + vs.length))).toArray.size = A1.size := by simp [hvl]; omega
    have hm2 := setRow_heap (w.drew.setRow b A1) b A1 (A1.toList.take (i * 2) ++ (vs ++ A1.toList.drop (i * 2 + vs.length))).toArray tb fz hm1
    refine ⟨b, c, tb, _, fz, rfl, rfl, rfl, rfl, hm2, fun j hj => hf j (by rw [hA2s, hA1s] at hj; exact hj), by rw [hA2s, hA1s]; exact hsize, hroom, ?_, .inl ⟨rfl, rfl, by rw [hA2s, hA1s], by rw [setRow_size, setRow_size]; rfl, fun j hj => ?_⟩⟩
    · subst hA1
      exact insShiftL arr.toList vs cs (i * 2) (n * 2) 2 ((i + 1) * 2) ((n + 1) * 2) (by omega) (by omega) (by omega) (by simp; omega) hvl hcs
    · rw [setRow_other _ _ _ _ hj, setRow_other _ _ _ _ hj]; rfl
  · refine (iqGrow39 hinf hsz hzz hzs hbb w b i n c vb vo vc arr tb fz cs vs hmem hi hnc hroom hsize hby va tv fv hmemv hcs hvl hvs h1 h1v _ rfl _ _ _ rfl rfl rfl).mono fun x w' => ?_
    rintro ⟨rfl, rfl⟩
    have hGn : n + 1 ≤ grownCap w (n + 1) c 43 := grownCap_ge w _ _ _
    have hzc : ∀ k, (Builtin.zeroCells z.cells k).size = k * 2 := fun k => by rw [size_zeroCells, hzs]
    have hRs : ((arr.toList.take (i * 2)).toArray ++ Builtin.zeroCells z.cells (n + 1 - i) ++ Builtin.zeroCells z.cells (grownCap w (n + 1) c 43 - (n + 1))).size = grownCap w (n + 1) c 43 * 2 := by
      simp only [Array.size_append, hzc, List.size_toArray, List.length_take, Array.length_toList]; omega
    have hRt : ((arr.toList.take (i * 2)).toArray ++ Builtin.zeroCells z.cells (n + 1 - i) ++ Builtin.zeroCells z.cells (grownCap w (n + 1) c 43 - (n + 1))).toList.take (i * 2) = arr.toList.take (i * 2) := by
      simp only [Array.toList_append, List.append_assoc]
      exact List.take_left' (by simp; omega)
    generalize hG : grownCap w (n + 1) c 43 = G at *
    generalize hR : (arr.toList.take (i * 2)).toArray ++ Builtin.zeroCells z.cells (n + 1 - i) ++ Builtin.zeroCells z.cells (G - (n + 1)) = ROW at *
    have hm0 : (w.drew.alloc (.cells ROW 43)).heap[w.heap.size]? = some (.cells ROW 43 (0, 0)) := heap_alloc_new w.drew _
    have hA1s : (ROW.toList.take (i * 2) ++ (vs ++ ROW.toList.drop (i * 2 + vs.length))).toArray.size = ROW.size := by simp [hvl]; omega
    have hm1 := setRow_heap (w.drew.alloc (.cells ROW 43)) w.heap.size ROW (ROW.toList.take (i * 2) ++ (vs ++ ROW.toList.drop (i * 2 + vs.length))).toArray 43 (0, 0) hm0
    generalize hA1 : (ROW.toList.take (i * 2) ++ (vs ++ ROW.toList.drop (i * 2 + vs.length))).toArray = A1 at *
    have hA2s : (A1.toList.take ((i + 1) * 2) ++ (cs ++ A1.toList.drop ((i + 1) * 2 + cs.length))).toArray.size = A1.size := by simp [hcl]; omega
    have hm2 := setRow_heap ((w.drew.alloc (.cells ROW 43)).setRow w.heap.size A1).drew w.heap.size A1 (A1.toList.take ((i + 1) * 2) ++ (cs ++ A1.toList.drop ((i + 1) * 2 + cs.length))).toArray 43 (0, 0) hm1
    refine ⟨w.heap.size, G, 43, _, (0, 0), rfl, rfl, rfl, rfl, hm2, fun j _ hj => by simp at hj, by rw [hA2s, hA1s]; exact hRs, hGn, ?_, .inr ⟨rfl, rfl, ?_, fun j hj => ?_⟩⟩
    · subst hA1
      exact insGrowL arr.toList ROW.toList vs cs (i * 2) (n * 2) 2 ((i + 1) * 2) ((n + 1) * 2) (by omega) (by omega) (by omega) (by simp; omega) hvl hcs hRt
    · rw [setRow_size]
      show ((w.drew.alloc (.cells ROW 43)).setRow w.heap.size A1).heap.size = _
      rw [setRow_size]
      simp
    · rw [setRow_other _ _ _ _ (by omega)]
      show ((w.drew.alloc (.cells ROW 43)).setRow w.heap.size A1).heap[j]? = _
      rw [setRow_other _ _ _ _ (by omega)]
      exact heap_alloc_old w.drew _ hj


set_option maxHeartbeats 4000000 in
theorem insEndN39 (w : World) (n c : Nat) (a : Addr) (vc : Nat) (hnc : n ≤ c) (hc0 : c = 0) (hn : n ≤ 140737488355328) (x : Option Addr) (m k : Nat) {w1 : World}
    (hap : ∀ ty, (Builtin.append_ #[24, 24] ty #[.slice none n c, .slice (some a) 1 vc]).run Try.prog w = .ok (.slice x m k) w1) :
    Calls Try.prog 39 #[.slice none n c, .int .i64 (n : Nat), .slice (some a) 1 vc] w fun e w' => e = .returned (.slice x m k) ∧ w' = w1 := by
  have mixed := mixed
  have hb1 : (0 : Int) ≤ (n : Int) := by omega
  have hb2 : (n : Int) ≤ (n : Int) := Int.le_refl _
  have hb7 : (n : Int) ≤ (c : Int) := by omega
  have hn0 : n = 0 := by omega
  subst hc0 hn0
  all_goals
    go_enter Try.func39, Try.ntmps39
    go_wp2_with (at_builtin; refine Lib.wpList_append_run _ rfl _ _ _ _ rfl _ _ rfl rfl _ _ (hap _) ?_)
    all_goals
      go_ret
      exact ⟨rfl, rfl⟩


set_option maxHeartbeats 4000000 in
theorem insEndS39 (w : World) (b : Addr) (n c : Nat) (a : Addr) (vc : Nat) (hnc : n ≤ c) (hn : n ≤ 140737488355328) (x : Option Addr) (m k : Nat) {w1 : World}
    (hap : ∀ ty, (Builtin.append_ #[24, 24] ty #[.slice (some b) n c, .slice (some a) 1 vc]).run Try.prog w = .ok (.slice x m k) w1) :
    Calls Try.prog 39 #[.slice (some b) n c, .int .i64 (n : Nat), .slice (some a) 1 vc] w fun e w' => e = .returned (.slice x m k) ∧ w' = w1 := by
  have mixed := mixed
  have hb1 : (0 : Int) ≤ (n : Int) := by omega
  have hb2 : (n : Int) ≤ (n : Int) := Int.le_refl _
  have hb7 : (n : Int) ≤ (c : Int) := by omega
  have hb8 : True := trivial
  by_cases hcn : c = n
  all_goals
    go_enter Try.func39, Try.ntmps39
    go_wp2_with (at_builtin; refine Lib.wpList_append_run _ rfl _ _ _ _ rfl _ _ rfl rfl _ _ (hap _) ?_)
    all_goals
      go_ret
      exact ⟨rfl, rfl⟩


theorem insN39 : InsE Try.prog 39 24 43 2 24 := by
  refine ⟨iqU39, ?_, fun w base n c a vc hnc hbn hn x m k w1 hap => ?_⟩
  · obtain ⟨inf, z, h1, h2, h3, h4, h5⟩ := iqE39
    exact ⟨inf, z, h1, h2, h3, h4, h5⟩
  · cases base with
    | none => exact insEndN39 w n c a vc hnc (hbn rfl) hn x m k hap
    | some b => exact insEndS39 w b n c a vc hnc hn x m k hap

noncomputable def u_feed_read : Uf := ⟨18, 12, Try.f18, [.val (.agg (.pair (.int .i64) (.pair (.int .i64) (.pair (.list (.agg (.pair (.int .i64) .str))) (.pair (.list (.agg (.pair (.int .i64) .str))) (.pair (.list (.agg (.pair (.int .i64) (.pair (.int .i64) (.pair (.int .i64) (.pair .str (.int .i64))))))) (.agg (.pair (.int .i64) (.int .i64)))))))))], [],
⟨[(2, .val (.alt 53 (.agg (.int .i64)) (.alt1 74 (.agg .unit))))], []⟩, [],
[],
[], fun y => (valW (.alt 53 (.agg (.int .i64)) (.alt1 74 (.agg .unit))) y, [], [])⟩
noncomputable def V_feed_read (N : Nat) (x : Int × Int × (List (Int × List UInt8)) × (List (Int × List UInt8)) × (List (Int × Int × Int × (List UInt8) × Int)) × Int × Int) : Option (Int ⊕ Unit) :=
  cnd (decide (x.1 < (1:Int))) (some (Sum.inr ())) (some (Sum.inl x.1))
theorem q_feed_read : ∀ N x, u_feed_read.F L0 P0 (orcOf []) N x = V_feed_read N x := by intros; kernel_rfl
noncomputable def W_feed_read (N : Nat) := V_feed_read N
theorem con_feed_read_ok (N : Nat) : (u_feed_read.con (W_feed_read N)).ok P0 := Uf.ok mixed (q_feed_read N) trivial Try.func18 (by kernel_rfl) fun x y => by kernel_rfl
def as_slices_Clone_api_Item : List AS := [.val (.list (.agg (.pair (.int .i64) .str)))]
def bs_slices_Clone_api_Item : List BS := []
def pout_slices_Clone_api_Item : Pat := ⟨[(2, .acc 700005)], [(700005, .nrow 43 (.agg (.pair (.int .i64) .str)) false true)]⟩
noncomputable def G_slices_Clone_api_Item  (N : Nat) : OrcT := orcOf []
noncomputable def F_slices_Clone_api_Item  (N : Nat) (x : List (Int × List UInt8)) : Option (List (Int × List UInt8)) :=
  (evT (G_slices_Clone_api_Item  N) L0 P0 []
    [] N 400 (bodyOf Try.f37) ⟨8, slots 0 [.nl ⟨(.agg (.pair (.int .i64) .str)), x⟩], tabU (lbOf as_slices_Clone_api_Item bs_slices_Clone_api_Item x) [], []⟩).elim (kRet 8 pout_slices_Clone_api_Item (kpL []) (lbOf as_slices_Clone_api_Item bs_slices_Clone_api_Item x))
def out_slices_Clone_api_Item (y : List (Int × List UInt8)) : V × List OK × List OK := (.acc 2000000 0, [], [.nrow 43 false true ⟨(.agg (.pair (.int .i64) .str)), y⟩])
noncomputable def V_slices_Clone_api_Item  (N : Nat) (x : List (Int × List UInt8)) : Option (List (Int × List UInt8)) :=
  cnd (decide (List.length x * (24:Nat) ≤ (140737488355328:Nat))) (some x) none
theorem FV_slices_Clone_api_Item_eq  (N : Nat) (x : List (Int × List UInt8)) : F_slices_Clone_api_Item  N x = V_slices_Clone_api_Item  N x := by kernel_rfl
noncomputable def W_slices_Clone_api_Item (N : Nat) (x : List (Int × List UInt8)) : Option (List (Int × List UInt8)) := V_slices_Clone_api_Item  N x
theorem F_slices_Clone_api_Item_eq (N : Nat) (x : List (Int × List UInt8)) : F_slices_Clone_api_Item  N x = W_slices_Clone_api_Item N x := (FV_slices_Clone_api_Item_eq  N x).trans (by kernel_rfl)
noncomputable def conw_slices_Clone_api_Item (w : List (Int × List UInt8) → Option (List (Int × List UInt8))) : Con := ⟨37, as_slices_Clone_api_Item, bs_slices_Clone_api_Item, List (Int × List UInt8), w, out_slices_Clone_api_Item⟩
noncomputable def con_slices_Clone_api_Item (N : Nat) : Con := conw_slices_Clone_api_Item (W_slices_Clone_api_Item N)
theorem R_slices_Clone_api_Item_eq (x : List (Int × List UInt8)) (y : List (Int × List UInt8)) : retOf2 P0 Try.f37 (kpL []) (lbOf as_slices_Clone_api_Item bs_slices_Clone_api_Item x) (patS ⟨8, [], [], []⟩ pout_slices_Clone_api_Item y) = some (out_slices_Clone_api_Item y) := by kernel_rfl
noncomputable def FA_slices_Clone_api_Item : Option (List (Int × List UInt8)) := (evT (G_slices_Clone_api_Item 1) L0 P0 [] [] 1 400 (bodyOf Try.f37) ⟨8, slots 0 [.snil], tabU [] [], []⟩).elim (kRet 8 pout_slices_Clone_api_Item (kpL []) [])
theorem FA_slices_Clone_api_Item_eq : FA_slices_Clone_api_Item = some [] := by kernel_rfl
theorem WN_slices_Clone_api_Item (N : Nat) (r : List (Int × List UInt8)) (h : W_slices_Clone_api_Item N [] = some r) : r = [] := by
  have e : W_slices_Clone_api_Item N [] = some [] := by kernel_rfl
  rw [e] at h; injection h with h; exact h.symm
theorem con_slices_Clone_api_Item_ok (N : Nat) : Con.ok P0 (con_slices_Clone_api_Item N) := ⟨⟨Try.f37, Try.func37, by kernel_rfl, by kernel_rfl⟩, fun (x : List (Int × List UInt8)) (r : List (Int × List UInt8)) (hr : W_slices_Clone_api_Item N x = some r) =>
  clone_split (e := (.agg (.pair (.int .i64) .str))) (ty := 43) (l := x) (r := r)
    (spec2_evT (Γ := G_slices_Clone_api_Item 1) (Λ := L0) (lb := []) (pout := pout_slices_Clone_api_Item) (kp := kpL []) mixed (orcOf_ok [] (by simp)) Try.func37 (c := bodyOf Try.f37) (by kernel_rfl) (by kernel_rfl) (of_decide_eq_true (by kernel_rfl)) FA_slices_Clone_api_Item_eq (R_slices_Clone_api_Item_eq x []))
    (spec2_evT (Γ := G_slices_Clone_api_Item N) (Λ := L0) (lb := []) (pout := pout_slices_Clone_api_Item) (kp := kpL []) mixed (orcOf_ok [] (by simp)) Try.func37 (c := bodyOf Try.f37) (by kernel_rfl) (by kernel_rfl) (of_decide_eq_true (by kernel_rfl)) ((F_slices_Clone_api_Item_eq N x).trans hr) (R_slices_Clone_api_Item_eq x r))
    (fun h => by subst h; exact WN_slices_Clone_api_Item N r hr)⟩
def as_slices_Clone_api_Event : List AS := [.val (.list (.agg (.pair (.int .i64) (.pair (.int .i64) (.pair (.int .i64) (.pair .str (.int .i64)))))))]
def bs_slices_Clone_api_Event : List BS := []
def pout_slices_Clone_api_Event : Pat := ⟨[(2, .acc 700005)], [(700005, .nrow 38 (.agg (.pair (.int .i64) (.pair (.int .i64) (.pair (.int .i64) (.pair .str (.int .i64)))))) false true)]⟩
noncomputable def G_slices_Clone_api_Event  (N : Nat) : OrcT := orcOf []
noncomputable def F_slices_Clone_api_Event  (N : Nat) (x : List (Int × Int × Int × (List UInt8) × Int)) : Option (List (Int × Int × Int × (List UInt8) × Int)) :=
  (evT (G_slices_Clone_api_Event  N) L0 P0 []
    [] N 400 (bodyOf Try.f29) ⟨8, slots 0 [.nl ⟨(.agg (.pair (.int .i64) (.pair (.int .i64) (.pair (.int .i64) (.pair .str (.int .i64)))))), x⟩], tabU (lbOf as_slices_Clone_api_Event bs_slices_Clone_api_Event x) [], []⟩).elim (kRet 8 pout_slices_Clone_api_Event (kpL []) (lbOf as_slices_Clone_api_Event bs_slices_Clone_api_Event x))
def out_slices_Clone_api_Event (y : List (Int × Int × Int × (List UInt8) × Int)) : V × List OK × List OK := (.acc 2000000 0, [], [.nrow 38 false true ⟨(.agg (.pair (.int .i64) (.pair (.int .i64) (.pair (.int .i64) (.pair .str (.int .i64)))))), y⟩])
noncomputable def V_slices_Clone_api_Event  (N : Nat) (x : List (Int × Int × Int × (List UInt8) × Int)) : Option (List (Int × Int × Int × (List UInt8) × Int)) :=
  cnd (decide (List.length x * (48:Nat) ≤ (140737488355328:Nat))) (some x) none
theorem FV_slices_Clone_api_Event_eq  (N : Nat) (x : List (Int × Int × Int × (List UInt8) × Int)) : F_slices_Clone_api_Event  N x = V_slices_Clone_api_Event  N x := by kernel_rfl
noncomputable def W_slices_Clone_api_Event (N : Nat) (x : List (Int × Int × Int × (List UInt8) × Int)) : Option (List (Int × Int × Int × (List UInt8) × Int)) := V_slices_Clone_api_Event  N x
theorem F_slices_Clone_api_Event_eq (N : Nat) (x : List (Int × Int × Int × (List UInt8) × Int)) : F_slices_Clone_api_Event  N x = W_slices_Clone_api_Event N x := (FV_slices_Clone_api_Event_eq  N x).trans (by kernel_rfl)
noncomputable def conw_slices_Clone_api_Event (w : List (Int × Int × Int × (List UInt8) × Int) → Option (List (Int × Int × Int × (List UInt8) × Int))) : Con := ⟨29, as_slices_Clone_api_Event, bs_slices_Clone_api_Event, List (Int × Int × Int × (List UInt8) × Int), w, out_slices_Clone_api_Event⟩
noncomputable def con_slices_Clone_api_Event (N : Nat) : Con := conw_slices_Clone_api_Event (W_slices_Clone_api_Event N)
theorem R_slices_Clone_api_Event_eq (x : List (Int × Int × Int × (List UInt8) × Int)) (y : List (Int × Int × Int × (List UInt8) × Int)) : retOf2 P0 Try.f29 (kpL []) (lbOf as_slices_Clone_api_Event bs_slices_Clone_api_Event x) (patS ⟨8, [], [], []⟩ pout_slices_Clone_api_Event y) = some (out_slices_Clone_api_Event y) := by kernel_rfl
noncomputable def FA_slices_Clone_api_Event : Option (List (Int × Int × Int × (List UInt8) × Int)) := (evT (G_slices_Clone_api_Event 1) L0 P0 [] [] 1 400 (bodyOf Try.f29) ⟨8, slots 0 [.snil], tabU [] [], []⟩).elim (kRet 8 pout_slices_Clone_api_Event (kpL []) [])
theorem FA_slices_Clone_api_Event_eq : FA_slices_Clone_api_Event = some [] := by kernel_rfl
theorem WN_slices_Clone_api_Event (N : Nat) (r : List (Int × Int × Int × (List UInt8) × Int)) (h : W_slices_Clone_api_Event N [] = some r) : r = [] := by
  have e : W_slices_Clone_api_Event N [] = some [] := by kernel_rfl
  rw [e] at h; injection h with h; exact h.symm
theorem con_slices_Clone_api_Event_ok (N : Nat) : Con.ok P0 (con_slices_Clone_api_Event N) := ⟨⟨Try.f29, Try.func29, by kernel_rfl, by kernel_rfl⟩, fun (x : List (Int × Int × Int × (List UInt8) × Int)) (r : List (Int × Int × Int × (List UInt8) × Int)) (hr : W_slices_Clone_api_Event N x = some r) =>
  clone_split (e := (.agg (.pair (.int .i64) (.pair (.int .i64) (.pair (.int .i64) (.pair .str (.int .i64))))))) (ty := 38) (l := x) (r := r)
    (spec2_evT (Γ := G_slices_Clone_api_Event 1) (Λ := L0) (lb := []) (pout := pout_slices_Clone_api_Event) (kp := kpL []) mixed (orcOf_ok [] (by simp)) Try.func29 (c := bodyOf Try.f29) (by kernel_rfl) (by kernel_rfl) (of_decide_eq_true (by kernel_rfl)) FA_slices_Clone_api_Event_eq (R_slices_Clone_api_Event_eq x []))
    (spec2_evT (Γ := G_slices_Clone_api_Event N) (Λ := L0) (lb := []) (pout := pout_slices_Clone_api_Event) (kp := kpL []) mixed (orcOf_ok [] (by simp)) Try.func29 (c := bodyOf Try.f29) (by kernel_rfl) (by kernel_rfl) (of_decide_eq_true (by kernel_rfl)) ((F_slices_Clone_api_Event_eq N x).trans hr) (R_slices_Clone_api_Event_eq x r))
    (fun h => by subst h; exact WN_slices_Clone_api_Event N r hr)⟩
noncomputable def u_twin_Feed : Uf := ⟨19, 16, Try.f19, [.val (.agg (.pair (.int .i64) (.pair (.int .i64) (.pair (.list (.agg (.pair (.int .i64) .str))) (.pair (.list (.agg (.pair (.int .i64) .str))) (.pair (.list (.agg (.pair (.int .i64) (.pair (.int .i64) (.pair (.int .i64) (.pair .str (.int .i64))))))) (.agg (.pair (.int .i64) (.int .i64)))))))))], [],
⟨[(2, .ptr 600002 0)], [(600002, .box 29 (.val (.pair (.int .i64) (.pair (.int .i64) (.pair (.list (.agg (.pair (.int .i64) .str))) (.pair (.list (.agg (.pair (.int .i64) .str))) (.pair (.list (.agg (.pair (.int .i64) (.pair (.int .i64) (.pair (.int .i64) (.pair .str (.int .i64))))))) (.agg (.pair (.int .i64) (.int .i64))))))))))]⟩, [],
[],
[], fun y => (valW (.agg (.pair (.int .i64) (.pair (.int .i64) (.pair (.list (.agg (.pair (.int .i64) .str))) (.pair (.list (.agg (.pair (.int .i64) .str))) (.pair (.list (.agg (.pair (.int .i64) (.pair (.int .i64) (.pair (.int .i64) (.pair .str (.int .i64))))))) (.agg (.pair (.int .i64) (.int .i64))))))))) y, [], [])⟩
noncomputable def V_twin_Feed (w_slices_Clone_api_Item : List (Int × List UInt8) → Option (List (Int × List UInt8))) (w_slices_Clone_api_Event : List (Int × Int × Int × (List UInt8) × Int) → Option (List (Int × Int × Int × (List UInt8) × Int))) (N : Nat) (x : Int × Int × (List (Int × List UInt8)) × (List (Int × List UInt8)) × (List (Int × Int × Int × (List UInt8) × Int)) × Int × Int) : Option (Int × Int × (List (Int × List UInt8)) × (List (Int × List UInt8)) × (List (Int × Int × Int × (List UInt8) × Int)) × Int × Int) :=
  obind (w_slices_Clone_api_Item x.2.2.1) fun b => obind (w_slices_Clone_api_Item x.2.2.2.1) fun b_1 => obind (w_slices_Clone_api_Event x.2.2.2.2.1) fun b_2 => some (x.1, x.2.1, b, b_1, b_2, x.2.2.2.2.2)
theorem q_twin_Feed : ∀ w_slices_Clone_api_Item w_slices_Clone_api_Event N x, u_twin_Feed.F L0 P0 (orcOf [conw_slices_Clone_api_Item w_slices_Clone_api_Item, conw_slices_Clone_api_Event w_slices_Clone_api_Event]) N x = V_twin_Feed w_slices_Clone_api_Item w_slices_Clone_api_Event N x := by intros; kernel_rfl
noncomputable def W_twin_Feed (N : Nat) := V_twin_Feed (W_slices_Clone_api_Item N) (W_slices_Clone_api_Event N) N
theorem con_twin_Feed_ok (N : Nat) : (u_twin_Feed.con (W_twin_Feed N)).ok P0 := Uf.ok mixed (q_twin_Feed (W_slices_Clone_api_Item N) (W_slices_Clone_api_Event N) N) ⟨con_slices_Clone_api_Item_ok N, con_slices_Clone_api_Event_ok N, trivial⟩ Try.func19 (by kernel_rfl) fun x y => by kernel_rfl
noncomputable def u_feed_Knows : Uf := ⟨12, 27, Try.f12, [.val (.agg (.pair (.int .i64) (.pair (.int .i64) (.pair (.list (.agg (.pair (.int .i64) .str))) (.pair (.list (.agg (.pair (.int .i64) .str))) (.pair (.list (.agg (.pair (.int .i64) (.pair (.int .i64) (.pair (.int .i64) (.pair .str (.int .i64))))))) (.agg (.pair (.int .i64) (.int .i64))))))))), .val (.int .i64)], [],
⟨[(4, .ptr 600004 0)], [(600004, .box 29 (.val (.pair (.int .i64) (.pair (.int .i64) (.pair (.list (.agg (.pair (.int .i64) .str))) (.pair (.list (.agg (.pair (.int .i64) .str))) (.pair (.list (.agg (.pair (.int .i64) (.pair (.int .i64) (.pair (.int .i64) (.pair .str (.int .i64))))))) (.agg (.pair (.int .i64) (.int .i64))))))))))]⟩, [],
[],
[], fun y => (valW (.agg (.pair (.int .i64) (.pair (.int .i64) (.pair (.list (.agg (.pair (.int .i64) .str))) (.pair (.list (.agg (.pair (.int .i64) .str))) (.pair (.list (.agg (.pair (.int .i64) (.pair (.int .i64) (.pair (.int .i64) (.pair .str (.int .i64))))))) (.agg (.pair (.int .i64) (.int .i64))))))))) y, [], [])⟩
noncomputable def V_feed_Knows (w_twin_Feed : Int × Int × (List (Int × List UInt8)) × (List (Int × List UInt8)) × (List (Int × Int × Int × (List UInt8) × Int)) × Int × Int → Option (Int × Int × (List (Int × List UInt8)) × (List (Int × List UInt8)) × (List (Int × Int × Int × (List UInt8) × Int)) × Int × Int)) (w_feed_read : Int × Int × (List (Int × List UInt8)) × (List (Int × List UInt8)) × (List (Int × Int × Int × (List UInt8) × Int)) × Int × Int → Option (Int ⊕ Unit)) (N : Nat) (x : (Int × Int × (List (Int × List UInt8)) × (List (Int × List UInt8)) × (List (Int × Int × Int × (List UInt8) × Int)) × Int × Int) × Int) : Option (Int × Int × (List (Int × List UInt8)) × (List (Int × List UInt8)) × (List (Int × Int × Int × (List UInt8) × Int)) × Int × Int) :=
  obind (w_twin_Feed x.1) fun b => obind (w_feed_read x.1) fun b_1 => selim (fun (b_2 : Int) => cnd (decide (x.2 ≤ (1000000:Int))) (some (b.1, max b.2.1 x.2, b.2.2)) (some b)) (fun (c : PUnit) => some b) b_1
theorem q_feed_Knows : ∀ w_twin_Feed w_feed_read N x, u_feed_Knows.F L0 P0 (orcOf [u_twin_Feed.con w_twin_Feed, u_feed_read.con w_feed_read]) N x = V_feed_Knows w_twin_Feed w_feed_read N x := by intros; kernel_rfl
noncomputable def W_feed_Knows (N : Nat) := V_feed_Knows (W_twin_Feed N) (W_feed_read N) N
theorem con_feed_Knows_ok (N : Nat) : (u_feed_Knows.con (W_feed_Knows N)).ok P0 := Uf.ok mixed (q_feed_Knows (W_twin_Feed N) (W_feed_read N) N) ⟨con_twin_Feed_ok N, con_feed_read_ok N, trivial⟩ Try.func12 (by kernel_rfl) fun x y => by kernel_rfl
noncomputable def u_feed_Begin : Uf := ⟨7, 30, Try.f7, [.val (.agg (.pair (.int .i64) (.pair (.int .i64) (.pair (.list (.agg (.pair (.int .i64) .str))) (.pair (.list (.agg (.pair (.int .i64) .str))) (.pair (.list (.agg (.pair (.int .i64) (.pair (.int .i64) (.pair (.int .i64) (.pair .str (.int .i64))))))) (.agg (.pair (.int .i64) (.int .i64))))))))), .val (.int .i64)], [],
⟨[(4, .ptr 600004 0)], [(600004, .box 29 (.val (.pair (.int .i64) (.pair (.int .i64) (.pair (.list (.agg (.pair (.int .i64) .str))) (.pair (.list (.agg (.pair (.int .i64) .str))) (.pair (.list (.agg (.pair (.int .i64) (.pair (.int .i64) (.pair (.int .i64) (.pair .str (.int .i64))))))) (.agg (.pair (.int .i64) (.int .i64))))))))))]⟩, [],
[],
[], fun y => (valW (.agg (.pair (.int .i64) (.pair (.int .i64) (.pair (.list (.agg (.pair (.int .i64) .str))) (.pair (.list (.agg (.pair (.int .i64) .str))) (.pair (.list (.agg (.pair (.int .i64) (.pair (.int .i64) (.pair (.int .i64) (.pair .str (.int .i64))))))) (.agg (.pair (.int .i64) (.int .i64))))))))) y, [], [])⟩
noncomputable def V_feed_Begin (w_feed_read : Int × Int × (List (Int × List UInt8)) × (List (Int × List UInt8)) × (List (Int × Int × Int × (List UInt8) × Int)) × Int × Int → Option (Int ⊕ Unit)) (w_feed_Knows : (Int × Int × (List (Int × List UInt8)) × (List (Int × List UInt8)) × (List (Int × Int × Int × (List UInt8) × Int)) × Int × Int) × Int → Option (Int × Int × (List (Int × List UInt8)) × (List (Int × List UInt8)) × (List (Int × Int × Int × (List UInt8) × Int)) × Int × Int)) (w_twin_Feed : Int × Int × (List (Int × List UInt8)) × (List (Int × List UInt8)) × (List (Int × Int × Int × (List UInt8) × Int)) × Int × Int → Option (Int × Int × (List (Int × List UInt8)) × (List (Int × List UInt8)) × (List (Int × Int × Int × (List UInt8) × Int)) × Int × Int)) (N : Nat) (x : (Int × Int × (List (Int × List UInt8)) × (List (Int × List UInt8)) × (List (Int × Int × Int × (List UInt8) × Int)) × Int × Int) × Int) : Option (Int × Int × (List (Int × List UInt8)) × (List (Int × List UInt8)) × (List (Int × Int × Int × (List UInt8) × Int)) × Int × Int) :=
  obind (w_feed_read x.1) fun b => selim (fun (b : Int) => obind (w_feed_Knows (x.1, wr .i64 (x.2 - (1:Int)))) fun b => some b) (fun (c : PUnit) => obind (w_twin_Feed x.1) fun b => cnd (decide ((1:Int) ≤ x.2)) (cnd (decide (x.2 ≤ (1000000:Int))) (some (x.2, b.2)) (some b)) (some b)) b
theorem q_feed_Begin : ∀ w_feed_read w_feed_Knows w_twin_Feed N x, u_feed_Begin.F L0 P0 (orcOf [u_feed_read.con w_feed_read, u_feed_Knows.con w_feed_Knows, u_twin_Feed.con w_twin_Feed]) N x = V_feed_Begin w_feed_read w_feed_Knows w_twin_Feed N x := by intros; kernel_rfl
noncomputable def W_feed_Begin (N : Nat) := V_feed_Begin (W_feed_read N) (W_feed_Knows N) (W_twin_Feed N) N
theorem con_feed_Begin_ok (N : Nat) : (u_feed_Begin.con (W_feed_Begin N)).ok P0 := Uf.ok mixed (q_feed_Begin (W_feed_read N) (W_feed_Knows N) (W_twin_Feed N) N) ⟨con_feed_read_ok N, con_feed_Knows_ok N, con_twin_Feed_ok N, trivial⟩ Try.func7 (by kernel_rfl) fun x y => by kernel_rfl
noncomputable def u_win_place : Uf := ⟨38, 32, Try.f38, [.val (.list (.agg (.pair (.int .i64) .str))), .val (.int .i64)], [],
⟨[(4, .val (.alt 77 (.agg (.int .i64)) (.alt1 96 (.agg .unit))))], []⟩, [],
[(2, .loop [7] ⟨[(9, .val (.int .i64))], []⟩ [(.exit 0, ⟨[], []⟩), (.ret, ⟨[(4, .val (.alt 77 (.agg (.int .i64)) (.alt1 96 (.agg .unit))))], []⟩)])],
[], fun y => (valW (.alt 77 (.agg (.int .i64)) (.alt1 96 (.agg .unit))) y, [], [])⟩
noncomputable def V_win_place (N : Nat) (x : (List (Int × List UInt8)) × Int) : Option (Int ⊕ Unit) :=
  obind (loopN N (fun (v : Int) => cnd (decide (v < (↑(List.length x.1) : Int))) (cnd (decide ((0:Int) ≤ v) && decide (v < (↑(List.length x.1) : Int)))
    (cnd (decide (Prod.fst (List.getD x.1 (Int.toNat v) ((0:Int), [])) = x.2)) (some (Sum.inr (Sum.inr (Sum.inr ())))) (cnd (decide (x.2 < Prod.fst
    (List.getD x.1 (Int.toNat v) ((0:Int), [])))) (some (Sum.inr (Sum.inr (Sum.inl v)))) (some (Sum.inl (wr .i64 (v + (1:Int))))))) none) (some (Sum.inr
    (Sum.inl ())))) (Int.ofNat (0:Nat))) fun (b : PUnit ⊕ Int ⊕ PUnit) => selim (fun (b : PUnit) => some (Sum.inl (↑(List.length x.1) : Int))) (fun (c :
    Int ⊕ PUnit) => some c) b
theorem q_win_place : ∀ N x, u_win_place.F L0 P0 (orcOf []) N x = V_win_place N x := by intros; kernel_rfl
noncomputable def W_win_place (N : Nat) := V_win_place N
theorem con_win_place_ok (N : Nat) : (u_win_place.con (W_win_place N)).ok P0 := Uf.ok mixed (q_win_place N) trivial Try.func38 (by kernel_rfl) fun x y => by kernel_rfl
def as_slices_Insert_api_Item : List AS := [.acc 0, .val (.int .i64), .val (.list (.agg (.pair (.int .i64) .str)))]
def bs_slices_Insert_api_Item : List BS := [.nrow 43 (.agg (.pair (.int .i64) .str)) true]
def out_slices_Insert_api_Item (y : List (Int × List UInt8)) : V × List OK × List OK := (.acc 2000000 0, [.dead], [.nrow 43 false true ⟨(.agg (.pair (.int .i64) .str)), y⟩])
noncomputable def W_slices_Insert_api_Item (N : Nat) (x : Int × (List (Int × List UInt8)) × List (Int × List UInt8)) : Option (List (Int × List UInt8)) :=
  cnd (decide ((0:Int) ≤ x.1) && decide (x.1 ≤ ((↑(List.length x.2.2) : Int) : Int)) && decide (List.length x.2.1 = (1:Nat)) && decide ((List.length x.2.2 + (1:Nat)) * (24:Nat) ≤ (140737488355328:Nat))) (some (List.take (Int.toNat x.1) x.2.2 ++ (x.2.1 ++ List.drop (Int.toNat x.1) x.2.2))) none
noncomputable def conw_slices_Insert_api_Item (w : Int × (List (Int × List UInt8)) × List (Int × List UInt8) → Option (List (Int × List UInt8))) : Con := ⟨39, as_slices_Insert_api_Item, bs_slices_Insert_api_Item, List (Int × List UInt8), w, out_slices_Insert_api_Item⟩
noncomputable def con_slices_Insert_api_Item (N : Nat) : Con := conw_slices_Insert_api_Item (W_slices_Insert_api_Item N)
theorem con_slices_Insert_api_Item_ok (N : Nat) : Con.ok P0 (con_slices_Insert_api_Item N) := ⟨⟨Try.f39, Try.func39, by kernel_rfl, by kernel_rfl⟩, fun (x : Int × (List (Int × List UInt8)) × List (Int × List UInt8)) (r : List (Int × List UInt8)) (hr : W_slices_Insert_api_Item N x = some r) => by
  obtain ⟨i, s, l⟩ := x
  exact ins_con (e := (.agg (.pair (.int .i64) .str))) (t := 24) (ty := 43) (bytes := 24) (nl := true) (l := l) (r := s) (q := r) (i := i) insN39 insP39 rfl (by decide) (by decide) (by decide) hr⟩
noncomputable def u_win_Put : Uf := ⟨20, 43, Try.f20, [.val (.list (.agg (.pair (.int .i64) .str))), .val (.int .i64), .val (.agg (.pair (.int .i64) .str))], [],
⟨[(6, .val (.list (.agg (.pair (.int .i64) .str)))), (7, .val .bool)], []⟩, [],
[],
[(1000003, .reg [(8, [], ⟨[(5, .ptr 600005 0), (8, .acc 700042), (9, .ptr 600009 0), (28, .val .bool)], [(600005, .box 43 (.val (.pair (.int .i64) .str))), (700042, .nrow 43 (.agg (.pair (.int .i64) .str)) false true), (600009, .box 77 (.val (.int .i64)))]⟩)])], fun y => (.tup [valW (.list (.agg (.pair (.int .i64) .str))) y.1, valW .bool y.2], [], [])⟩
noncomputable def V_win_Put (w_slices_Clone_api_Item : List (Int × List UInt8) → Option (List (Int × List UInt8))) (w_win_place : (List (Int × List UInt8)) × Int → Option (Int ⊕ Unit)) (w_slices_Insert_api_Item : Int × (List (Int × List UInt8)) × List (Int × List UInt8) → Option (List (Int × List UInt8))) (N : Nat) (x : (List (Int × List UInt8)) × Int × Int × List UInt8) : Option ((List (Int × List UInt8)) × Bool) :=
  obind (w_slices_Clone_api_Item x.1) fun b => obind (w_win_place (x.1, x.2.2.1)) fun b_1 => selim (fun (b_2 : Int) => cnd (decide (x.2.2.1 <
    x.2.1)) (some (b, false)) (cnd (decide (wr .i64 (x.2.1 + (8:Int)) ≤ x.2.2.1)) (some (b, false)) (obind (w_slices_Insert_api_Item (b_2, [x.2.2],
    b)) fun b => some (b, true)))) (fun (c : PUnit) => cnd true (some (b, false)) (cnd (decide (wr .i64 (x.2.1 + (8:Int)) ≤ x.2.2.1)) (some (b, false))
    (obind (w_slices_Insert_api_Item ((0:Int), [x.2.2], b)) fun b => some (b, true)))) b_1
theorem q_win_Put : ∀ w_slices_Clone_api_Item w_win_place w_slices_Insert_api_Item N x, u_win_Put.F L0 P0 (orcOf [conw_slices_Clone_api_Item w_slices_Clone_api_Item, u_win_place.con w_win_place, conw_slices_Insert_api_Item w_slices_Insert_api_Item]) N x = V_win_Put w_slices_Clone_api_Item w_win_place w_slices_Insert_api_Item N x := by intros; kernel_rfl
noncomputable def W_win_Put (N : Nat) := V_win_Put (W_slices_Clone_api_Item N) (W_win_place N) (W_slices_Insert_api_Item N) N
theorem con_win_Put_ok (N : Nat) : (u_win_Put.con (W_win_Put N)).ok P0 := Uf.ok mixed (q_win_Put (W_slices_Clone_api_Item N) (W_win_place N) (W_slices_Insert_api_Item N) N) ⟨con_slices_Clone_api_Item_ok N, con_win_place_ok N, con_slices_Insert_api_Item_ok N, trivial⟩ Try.func20 (by kernel_rfl) fun x y => by kernel_rfl
noncomputable def u_win_Take : Uf := ⟨40, 27, Try.f40, [.val (.list (.agg (.pair (.int .i64) .str))), .val (.int .i64)], [],
⟨[(4, .val (.list (.agg (.pair (.int .i64) .str)))), (5, .ptr 600005 0), (6, .val .bool)], [(600005, .box 43 (.val (.pair (.int .i64) .str)))]⟩, [],
[],
[], fun y => (.tup [valW (.list (.agg (.pair (.int .i64) .str))) y.1, valW (.agg (.pair (.int .i64) .str)) y.2.2, valW .bool y.2.1], [], [])⟩
noncomputable def V_win_Take (w_slices_Clone_api_Item : List (Int × List UInt8) → Option (List (Int × List UInt8))) (N : Nat) (x : (List (Int × List UInt8)) × Int) : Option ((List (Int × List UInt8)) × Bool × Int × List UInt8) :=
  cnd (decide ((↑(List.length x.1) : Int) = (0:Int))) (obind (w_slices_Clone_api_Item x.1) fun b => some (b, false, (0:Int), [])) (cnd (decide
    ((0:Int) ≤ (0:Int)) && decide ((0:Int) < (↑(List.length x.1) : Int))) (cnd (decide (Prod.fst (List.getD x.1 (0:Nat) ((0:Int), [])) ≠ x.2)) (obind
    (w_slices_Clone_api_Item x.1) fun b => some (b, false, (0:Int), [])) (cnd (decide ((0:Int) ≤ (1:Int)) && decide ((1:Int) ≤ (↑(List.length x.1) :
    Int))) (obind (w_slices_Clone_api_Item (List.drop (1:Nat) (List.take (List.length x.1) x.1))) fun b => cnd (decide ((0:Int) ≤ (0:Int)) && decide
    ((0:Int) < (↑(List.length x.1) : Int))) (some (b, true, Prod.fst (List.getD x.1 (0:Nat) ((0:Int), [])), Prod.snd (List.getD x.1 (0:Nat) ((0:Int),
    [])))) none) none)) none)
theorem q_win_Take : ∀ w_slices_Clone_api_Item N x, u_win_Take.F L0 P0 (orcOf [conw_slices_Clone_api_Item w_slices_Clone_api_Item]) N x = V_win_Take w_slices_Clone_api_Item N x := by intros; kernel_rfl
noncomputable def W_win_Take (N : Nat) := V_win_Take (W_slices_Clone_api_Item N) N
theorem con_win_Take_ok (N : Nat) : (u_win_Take.con (W_win_Take N)).ok P0 := Uf.ok mixed (q_win_Take (W_slices_Clone_api_Item N) N) ⟨con_slices_Clone_api_Item_ok N, trivial⟩ Try.func40 (by kernel_rfl) fun x y => by kernel_rfl
noncomputable def u_log_Tell : Uf := ⟨27, 15, Try.f27, [.val (.list (.agg (.pair (.int .i64) (.pair (.int .i64) (.pair (.int .i64) (.pair .str (.int .i64))))))), .val (.int .i64), .val .str], [],
⟨[(6, .val (.list (.agg (.pair (.int .i64) (.pair (.int .i64) (.pair (.int .i64) (.pair .str (.int .i64))))))))], []⟩, [],
[],
[], fun y => (valW (.list (.agg (.pair (.int .i64) (.pair (.int .i64) (.pair (.int .i64) (.pair .str (.int .i64))))))) y, [], [])⟩
noncomputable def V_log_Tell (w_slices_Clone_api_Event : List (Int × Int × Int × (List UInt8) × Int) → Option (List (Int × Int × Int × (List UInt8) × Int))) (N : Nat) (x : (List (Int × Int × Int × (List UInt8) × Int)) × Int × List UInt8) : Option (List (Int × Int × Int × (List UInt8) × Int)) :=
  obind (w_slices_Clone_api_Event x.1) fun b => cnd (decide ((List.length b + List.length [((1:Int), x.2.1, x.2.1, x.2.2, (0:Int))]) * (48:Nat) ≤ (140737488355328:Nat))) (some (b ++ [((1:Int), x.2.1, x.2.1, x.2.2, (0:Int))])) none
theorem q_log_Tell : ∀ w_slices_Clone_api_Event N x, u_log_Tell.F L0 P0 (orcOf [conw_slices_Clone_api_Event w_slices_Clone_api_Event]) N x = V_log_Tell w_slices_Clone_api_Event N x := by intros; kernel_rfl
noncomputable def W_log_Tell (N : Nat) := V_log_Tell (W_slices_Clone_api_Event N) N
theorem con_log_Tell_ok (N : Nat) : (u_log_Tell.con (W_log_Tell N)).ok P0 := Uf.ok mixed (q_log_Tell (W_slices_Clone_api_Event N) N) ⟨con_slices_Clone_api_Event_ok N, trivial⟩ Try.func27 (by kernel_rfl) fun x y => by kernel_rfl
def as_slices_Delete_api_Item : List AS := [.acc 0, .val (.int .i64), .val (.int .i64)]
def bs_slices_Delete_api_Item : List BS := [.nrow 43 (.agg (.pair (.int .i64) .str)) true]
def out_slices_Delete_api_Item (y : List (Int × List UInt8)) : V × List OK × List OK := (.acc 2000000 0, [.dead], [.nrow 43 false true ⟨(.agg (.pair (.int .i64) .str)), y⟩])
noncomputable def W_slices_Delete_api_Item (N : Nat) (x : Int × Int × List (Int × List UInt8)) : Option (List (Int × List UInt8)) :=
  cnd (decide ((0:Int) ≤ x.1) && decide (x.1 < ((↑(List.length x.2.2) : Int) : Int)) && decide (x.2.1 = x.1 + (1:Int)) && decide (List.length x.2.2 ≤
    (140737488355328:Nat)) && decide ((2:Nat) ≤ List.length x.2.2)) (some (List.take (Int.toNat x.1) x.2.2 ++ List.drop (Int.toNat x.1 + (1:Nat))
    x.2.2)) none
noncomputable def conw_slices_Delete_api_Item (w : Int × Int × List (Int × List UInt8) → Option (List (Int × List UInt8))) : Con := ⟨46, as_slices_Delete_api_Item, bs_slices_Delete_api_Item, List (Int × List UInt8), w, out_slices_Delete_api_Item⟩
noncomputable def con_slices_Delete_api_Item (N : Nat) : Con := conw_slices_Delete_api_Item (W_slices_Delete_api_Item N)
theorem con_slices_Delete_api_Item_ok (N : Nat) : Con.ok P0 (con_slices_Delete_api_Item N) := ⟨⟨Try.f46, Try.func46, by kernel_rfl, by kernel_rfl⟩, fun (x : Int × Int × List (Int × List UInt8)) (r : List (Int × List UInt8)) (hr : W_slices_Delete_api_Item N x = some r) => by
  obtain ⟨i, j, l⟩ := x
  exact del_con2 (e := (.agg (.pair (.int .i64) .str))) (ty := 43) (nl := true) (l := l) (r := r) (i := i) (j := j) delF46 rfl (by decide) hr⟩
noncomputable def u_ring_Add : Uf := ⟨28, 34, Try.f28, [.val (.list (.agg (.pair (.int .i64) .str))), .val (.agg (.pair (.int .i64) .str))], [],
⟨[(4, .val (.list (.agg (.pair (.int .i64) .str))))], []⟩, [],
[],
[], fun y => (valW (.list (.agg (.pair (.int .i64) .str))) y, [], [])⟩
noncomputable def V_ring_Add (w_slices_Clone_api_Item : List (Int × List UInt8) → Option (List (Int × List UInt8))) (w_slices_Delete_api_Item : Int × Int × List (Int × List UInt8) → Option (List (Int × List UInt8))) (N : Nat) (x : (List (Int × List UInt8)) × Int × List UInt8) : Option (List (Int × List UInt8)) :=
  obind (w_slices_Clone_api_Item x.1) fun b => cnd (decide ((0:Int) < (↑(List.length x.1) : Int))) (cnd (decide ((0:Int) ≤ wr .i64 ((↑(List.length
    x.1) : Int) - (1:Int))) && decide (wr .i64 ((↑(List.length x.1) : Int) - (1:Int)) < (↑(List.length x.1) : Int))) (cnd (decide (x.2.1 ≤ Prod.fst
    (List.getD x.1 (Int.toNat (wr .i64 ((↑(List.length x.1) : Int) - (1:Int)))) ((0:Int), [])))) (some b) (cnd (decide ((List.length b + List.length
    [x.2]) * (24:Nat) ≤ (140737488355328:Nat))) (cnd (decide ((6:Int) < (↑(List.length (b ++ [x.2])) : Int))) (obind (w_slices_Delete_api_Item
    ((0:Int), (1:Int), b ++ [x.2])) fun b => some b) (some (b ++ [x.2]))) none)) none) (cnd (decide ((List.length b + List.length [x.2]) * (24:Nat) ≤
    (140737488355328:Nat))) (cnd (decide ((6:Int) < (↑(List.length (b ++ [x.2])) : Int))) (obind (w_slices_Delete_api_Item ((0:Int), (1:Int), b ++
    [x.2])) fun b => some b) (some (b ++ [x.2]))) none)
theorem q_ring_Add : ∀ w_slices_Clone_api_Item w_slices_Delete_api_Item N x, u_ring_Add.F L0 P0 (orcOf [conw_slices_Clone_api_Item w_slices_Clone_api_Item, conw_slices_Delete_api_Item w_slices_Delete_api_Item]) N x = V_ring_Add w_slices_Clone_api_Item w_slices_Delete_api_Item N x := by intros; kernel_rfl
noncomputable def W_ring_Add (N : Nat) := V_ring_Add (W_slices_Clone_api_Item N) (W_slices_Delete_api_Item N) N
theorem con_ring_Add_ok (N : Nat) : (u_ring_Add.con (W_ring_Add N)).ok P0 := Uf.ok mixed (q_ring_Add (W_slices_Clone_api_Item N) (W_slices_Delete_api_Item N) N) ⟨con_slices_Clone_api_Item_ok N, con_slices_Delete_api_Item_ok N, trivial⟩ Try.func28 (by kernel_rfl) fun x y => by kernel_rfl
noncomputable def u_wait_Start : Uf := ⟨41, 2, Try.f41, [], [],
⟨[(0, .ptr 600000 0)], [(600000, .box 27 (.val (.pair (.int .i64) (.int .i64))))]⟩, [],
[],
[], fun y => (valW (.agg (.pair (.int .i64) (.int .i64))) y, [], [])⟩
noncomputable def V_wait_Start (N : Nat) (x : Unit) : Option (Int × Int) :=
  some ((0:Int), (0:Int))
theorem q_wait_Start : ∀ N x, u_wait_Start.F L0 P0 (orcOf []) N x = V_wait_Start N x := by intros; kernel_rfl
noncomputable def W_wait_Start (N : Nat) := V_wait_Start N
theorem con_wait_Start_ok (N : Nat) : (u_wait_Start.con (W_wait_Start N)).ok P0 := Uf.ok mixed (q_wait_Start N) trivial Try.func41 (by kernel_rfl) fun x y => by kernel_rfl
noncomputable def u_nak_Goes : Uf := ⟨21, 52, Try.f21, [.val (.agg (.pair (.int .i64) (.pair (.int .i64) (.pair (.list (.agg (.pair (.int .i64) .str))) (.pair (.list (.agg (.pair (.int .i64) .str))) (.pair (.list (.agg (.pair (.int .i64) (.pair (.int .i64) (.pair (.int .i64) (.pair .str (.int .i64))))))) (.agg (.pair (.int .i64) (.int .i64)))))))))], [],
⟨[(2, .ptr 600002 0), (3, .val (.list (.agg (.pair (.int .i64) .str))))], [(600002, .box 29 (.val (.pair (.int .i64) (.pair (.int .i64) (.pair (.list (.agg (.pair (.int .i64) .str))) (.pair (.list (.agg (.pair (.int .i64) .str))) (.pair (.list (.agg (.pair (.int .i64) (.pair (.int .i64) (.pair (.int .i64) (.pair .str (.int .i64))))))) (.agg (.pair (.int .i64) (.int .i64))))))))))]⟩, [],
[(3, .loop [] ⟨[(2, .ptr 600002 0), (4, .ptr 600004 0), (5, .acc 700005)], [(600002, .box 29 (.val (.pair (.int .i64) (.pair (.int .i64) (.pair (.list (.agg (.pair (.int .i64) .str))) (.pair (.list (.agg (.pair (.int .i64) .str))) (.pair (.list (.agg (.pair (.int .i64) (.pair (.int .i64) (.pair (.int .i64) (.pair .str (.int .i64))))))) (.agg (.pair (.int .i64) (.int .i64)))))))))), (600004, .box 29 (.val (.pair (.int .i64) (.pair (.int .i64) (.pair (.list (.agg (.pair (.int .i64) .str))) (.pair (.list (.agg (.pair (.int .i64) .str))) (.pair (.list (.agg (.pair (.int .i64) (.pair (.int .i64) (.pair (.int .i64) (.pair .str (.int .i64))))))) (.agg (.pair (.int .i64) (.int .i64)))))))))), (700005, .nrow 43 (.agg (.pair (.int .i64) .str)) true true)]⟩ [(.exit 0, ⟨[(2, .ptr 600002 0), (4, .ptr 600004 0), (5, .val (.list (.agg (.pair (.int .i64) .str))))], [(600002, .box 29 (.val (.pair (.int .i64) (.pair (.int .i64) (.pair (.list (.agg (.pair (.int .i64) .str))) (.pair (.list (.agg (.pair (.int .i64) .str))) (.pair (.list (.agg (.pair (.int .i64) (.pair (.int .i64) (.pair (.int .i64) (.pair .str (.int .i64))))))) (.agg (.pair (.int .i64) (.int .i64)))))))))), (600004, .box 29 (.val (.pair (.int .i64) (.pair (.int .i64) (.pair (.list (.agg (.pair (.int .i64) .str))) (.pair (.list (.agg (.pair (.int .i64) .str))) (.pair (.list (.agg (.pair (.int .i64) (.pair (.int .i64) (.pair (.int .i64) (.pair .str (.int .i64))))))) (.agg (.pair (.int .i64) (.int .i64))))))))))]⟩)])],
[], fun y => (.tup [valW (.agg (.pair (.int .i64) (.pair (.int .i64) (.pair (.list (.agg (.pair (.int .i64) .str))) (.pair (.list (.agg (.pair (.int .i64) .str))) (.pair (.list (.agg (.pair (.int .i64) (.pair (.int .i64) (.pair (.int .i64) (.pair .str (.int .i64))))))) (.agg (.pair (.int .i64) (.int .i64))))))))) y.2, valW (.list (.agg (.pair (.int .i64) .str))) y.1], [], [])⟩
noncomputable def V_nak_Goes (w_twin_Feed : Int × Int × (List (Int × List UInt8)) × (List (Int × List UInt8)) × (List (Int × Int × Int × (List UInt8) × Int)) × Int × Int → Option (Int × Int × (List (Int × List UInt8)) × (List (Int × List UInt8)) × (List (Int × Int × Int × (List UInt8) × Int)) × Int × Int)) (w_win_Take : (List (Int × List UInt8)) × Int → Option ((List (Int × List UInt8)) × Bool × Int × List UInt8)) (w_log_Tell : (List (Int × Int × Int × (List UInt8) × Int)) × Int × List UInt8 → Option (List (Int × Int × Int × (List UInt8) × Int))) (w_ring_Add : (List (Int × List UInt8)) × Int × List UInt8 → Option (List (Int × List UInt8))) (w_wait_Start : Unit → Option (Int × Int)) (N : Nat) (x : Int × Int × (List (Int × List UInt8)) × (List (Int × List UInt8)) × (List (Int × Int × Int × (List UInt8) × Int)) × Int × Int) : Option ((List (Int × List UInt8)) × Int × Int × (List (Int × List UInt8)) × (List (Int × List UInt8)) × (List (Int × Int × Int × (List UInt8) × Int)) × Int × Int) :=
  obind (w_twin_Feed x) fun b => obind (loopN N (fun (v : (Int × Int × List (Int × List UInt8) × List (Int × List UInt8) × List (Int × Int × Int ×
    List UInt8 × Int) × Int × Int) × (Int × Int × List (Int × List UInt8) × List (Int × List UInt8) × List (Int × Int × Int × List UInt8 × Int) × Int ×
    Int) × List (Int × List UInt8)) => obind (w_win_Take (v.2.1.2.2.2.1, v.2.1.1)) fun b => cnd (!b.2.1) (some (Sum.inr (v.2.2, v.1, v.2.1))) (obind
    (w_log_Tell (v.2.1.2.2.2.2.1, b.2.2)) fun b_1 => obind (w_ring_Add (v.2.1.2.2.1, b.2.2)) fun b_2 => cnd (decide ((List.length v.2.2 +
    List.length [b.2.2]) * (24:Nat) ≤ (140737488355328:Nat))) (some (Sum.inl (v.1, (wr .i64 (v.2.1.1 + (1:Int)), v.2.1.2.1, b_2, b.1, b_1,
    v.2.1.2.2.2.2.2), v.2.2 ++ [b.2.2]))) none)) (((0:Int), (0:Int), [], [], [], (0:Int), (0:Int)), b, [])) fun (b : List (Int × List UInt8) × (Int ×
    Int × List (Int × List UInt8) × List (Int × List UInt8) × List (Int × Int × Int × List UInt8 × Int) × Int × Int) × Int × Int × List (Int × List
    UInt8) × List (Int × List UInt8) × List (Int × Int × Int × List UInt8 × Int) × Int × Int) => cnd (decide ((0:Int) < (↑(List.length b.1) : Int)))
    (obind (w_wait_Start ()) fun b_1 => some (b.1, b.2.2.1, b.2.2.2.1, b.2.2.2.2.1, b.2.2.2.2.2.1, b.2.2.2.2.2.2.1, b_1)) (some (b.1, b.2.2))
theorem q_nak_Goes : ∀ w_twin_Feed w_win_Take w_log_Tell w_ring_Add w_wait_Start N x, u_nak_Goes.F L0 P0 (orcOf [u_twin_Feed.con w_twin_Feed, u_win_Take.con w_win_Take, u_log_Tell.con w_log_Tell, u_ring_Add.con w_ring_Add, u_wait_Start.con w_wait_Start]) N x = V_nak_Goes w_twin_Feed w_win_Take w_log_Tell w_ring_Add w_wait_Start N x := by intros; kernel_rfl
noncomputable def W_nak_Goes (N : Nat) := V_nak_Goes (W_twin_Feed N) (W_win_Take N) (W_log_Tell N) (W_ring_Add N) (W_wait_Start N) N
theorem con_nak_Goes_ok (N : Nat) : (u_nak_Goes.con (W_nak_Goes N)).ok P0 := Uf.ok mixed (q_nak_Goes (W_twin_Feed N) (W_win_Take N) (W_log_Tell N) (W_ring_Add N) (W_wait_Start N) N) ⟨con_twin_Feed_ok N, con_win_Take_ok N, con_log_Tell_ok N, con_ring_Add_ok N, con_wait_Start_ok N, trivial⟩ Try.func21 (by kernel_rfl) fun x y => by kernel_rfl
noncomputable def u_feed_Comes : Uf := ⟨6, 54, Try.f6, [.val (.agg (.pair (.int .i64) (.pair (.int .i64) (.pair (.list (.agg (.pair (.int .i64) .str))) (.pair (.list (.agg (.pair (.int .i64) .str))) (.pair (.list (.agg (.pair (.int .i64) (.pair (.int .i64) (.pair (.int .i64) (.pair .str (.int .i64))))))) (.agg (.pair (.int .i64) (.int .i64))))))))), .val (.agg (.pair (.int .i64) .str))], [],
⟨[(4, .ptr 600004 0)], [(600004, .box 29 (.val (.pair (.int .i64) (.pair (.int .i64) (.pair (.list (.agg (.pair (.int .i64) .str))) (.pair (.list (.agg (.pair (.int .i64) .str))) (.pair (.list (.agg (.pair (.int .i64) (.pair (.int .i64) (.pair (.int .i64) (.pair .str (.int .i64))))))) (.agg (.pair (.int .i64) (.int .i64))))))))))]⟩, [],
[],
[(1000002, .reg [(7, [], ⟨[(2, .ptr 600002 0), (3, .ptr 600003 0), (4, .ptr 600004 0), (20, .val .bool)], [(600002, .box 29 (.val (.pair (.int .i64) (.pair (.int .i64) (.pair (.list (.agg (.pair (.int .i64) .str))) (.pair (.list (.agg (.pair (.int .i64) .str))) (.pair (.list (.agg (.pair (.int .i64) (.pair (.int .i64) (.pair (.int .i64) (.pair .str (.int .i64))))))) (.agg (.pair (.int .i64) (.int .i64)))))))))), (600003, .box 43 (.val (.pair (.int .i64) .str))), (600004, .box 29 (.val (.pair (.int .i64) (.pair (.int .i64) (.pair (.list (.agg (.pair (.int .i64) .str))) (.pair (.list (.agg (.pair (.int .i64) .str))) (.pair (.list (.agg (.pair (.int .i64) (.pair (.int .i64) (.pair (.int .i64) (.pair .str (.int .i64))))))) (.agg (.pair (.int .i64) (.int .i64))))))))))]⟩), (5, [], ⟨[(2, .ptr 600002 0), (3, .ptr 600003 0), (4, .ptr 600004 0), (25, .val .bool)], [(600002, .box 29 (.val (.pair (.int .i64) (.pair (.int .i64) (.pair (.list (.agg (.pair (.int .i64) .str))) (.pair (.list (.agg (.pair (.int .i64) .str))) (.pair (.list (.agg (.pair (.int .i64) (.pair (.int .i64) (.pair (.int .i64) (.pair .str (.int .i64))))))) (.agg (.pair (.int .i64) (.int .i64)))))))))), (600003, .box 43 (.val (.pair (.int .i64) .str))), (600004, .box 29 (.val (.pair (.int .i64) (.pair (.int .i64) (.pair (.list (.agg (.pair (.int .i64) .str))) (.pair (.list (.agg (.pair (.int .i64) .str))) (.pair (.list (.agg (.pair (.int .i64) (.pair (.int .i64) (.pair (.int .i64) (.pair .str (.int .i64))))))) (.agg (.pair (.int .i64) (.int .i64))))))))))]⟩)])], fun y => (valW (.agg (.pair (.int .i64) (.pair (.int .i64) (.pair (.list (.agg (.pair (.int .i64) .str))) (.pair (.list (.agg (.pair (.int .i64) .str))) (.pair (.list (.agg (.pair (.int .i64) (.pair (.int .i64) (.pair (.int .i64) (.pair .str (.int .i64))))))) (.agg (.pair (.int .i64) (.int .i64))))))))) y, [], [])⟩
noncomputable def V_feed_Comes (w_feed_read : Int × Int × (List (Int × List UInt8)) × (List (Int × List UInt8)) × (List (Int × Int × Int × (List UInt8) × Int)) × Int × Int → Option (Int ⊕ Unit)) (w_twin_Feed : Int × Int × (List (Int × List UInt8)) × (List (Int × List UInt8)) × (List (Int × Int × Int × (List UInt8) × Int)) × Int × Int → Option (Int × Int × (List (Int × List UInt8)) × (List (Int × List UInt8)) × (List (Int × Int × Int × (List UInt8) × Int)) × Int × Int)) (w_feed_Knows : (Int × Int × (List (Int × List UInt8)) × (List (Int × List UInt8)) × (List (Int × Int × Int × (List UInt8) × Int)) × Int × Int) × Int → Option (Int × Int × (List (Int × List UInt8)) × (List (Int × List UInt8)) × (List (Int × Int × Int × (List UInt8) × Int)) × Int × Int)) (w_win_Put : (List (Int × List UInt8)) × Int × Int × List UInt8 → Option ((List (Int × List UInt8)) × Bool)) (w_nak_Goes : Int × Int × (List (Int × List UInt8)) × (List (Int × List UInt8)) × (List (Int × Int × Int × (List UInt8) × Int)) × Int × Int → Option ((List (Int × List UInt8)) × Int × Int × (List (Int × List UInt8)) × (List (Int × List UInt8)) × (List (Int × Int × Int × (List UInt8) × Int)) × Int × Int)) (N : Nat) (x : (Int × Int × (List (Int × List UInt8)) × (List (Int × List UInt8)) × (List (Int × Int × Int × (List UInt8) × Int)) × Int × Int) × Int × List UInt8) : Option (Int × Int × (List (Int × List UInt8)) × (List (Int × List UInt8)) × (List (Int × Int × Int × (List UInt8) × Int)) × Int × Int) :=
  obind (w_feed_read x.1) fun b => selim (fun (b : Int) => obind (cnd (decide (x.2.1 < (1:Int))) (some (true, x.1, x.2, (0:Int), (0:Int), [], [], [],
    (0:Int), (0:Int))) (some (decide ((1000000:Int) < x.2.1), x.1, x.2, (0:Int), (0:Int), [], [], [], (0:Int), (0:Int)))) fun (b : Bool × (Int × Int ×
    List (Int × List UInt8) × List (Int × List UInt8) × List (Int × Int × Int × List UInt8 × Int) × Int × Int) × (Int × List UInt8) × Int × Int × List
    (Int × List UInt8) × List (Int × List UInt8) × List (Int × Int × Int × List UInt8 × Int) × Int × Int) => cnd b.1 (obind (w_twin_Feed b.2.1) fun b
    => some b) (cnd (decide ((12:Int) < (↑(List.length b.2.2.1.2) : Int))) (obind (w_twin_Feed b.2.1) fun b => some b) (obind (w_feed_Knows (b.2.1,
    b.2.2.1.1)) fun b_1 => obind (w_win_Put (b_1.2.2.2.1, b_1.1, b.2.2.1)) fun b => obind (w_nak_Goes (b_1.1, b_1.2.1, b_1.2.2.1, b.1, b_1.2.2.2.2))
    fun b => some b.2))) (fun (c : PUnit) => obind (cnd true (some (true, x.1, x.2, (0:Int), (0:Int), [], [], [], (0:Int), (0:Int))) (some (decide
    ((1000000:Int) < x.2.1), x.1, x.2, (0:Int), (0:Int), [], [], [], (0:Int), (0:Int)))) fun (b : Bool × (Int × Int × List (Int × List UInt8) × List
    (Int × List UInt8) × List (Int × Int × Int × List UInt8 × Int) × Int × Int) × (Int × List UInt8) × Int × Int × List (Int × List UInt8) × List (Int ×
    List UInt8) × List (Int × Int × Int × List UInt8 × Int) × Int × Int) => cnd b.1 (obind (w_twin_Feed b.2.1) fun b => some b) (cnd (decide ((12:Int)
    < (↑(List.length b.2.2.1.2) : Int))) (obind (w_twin_Feed b.2.1) fun b => some b) (obind (w_feed_Knows (b.2.1, b.2.2.1.1)) fun b_1 => obind
    (w_win_Put (b_1.2.2.2.1, b_1.1, b.2.2.1)) fun b => obind (w_nak_Goes (b_1.1, b_1.2.1, b_1.2.2.1, b.1, b_1.2.2.2.2)) fun b => some b.2))) b
theorem q_feed_Comes : ∀ w_feed_read w_twin_Feed w_feed_Knows w_win_Put w_nak_Goes N x, u_feed_Comes.F L0 P0 (orcOf [u_feed_read.con w_feed_read, u_twin_Feed.con w_twin_Feed, u_feed_Knows.con w_feed_Knows, u_win_Put.con w_win_Put, u_nak_Goes.con w_nak_Goes]) N x = V_feed_Comes w_feed_read w_twin_Feed w_feed_Knows w_win_Put w_nak_Goes N x := by intros; kernel_rfl
noncomputable def W_feed_Comes (N : Nat) := V_feed_Comes (W_feed_read N) (W_twin_Feed N) (W_feed_Knows N) (W_win_Put N) (W_nak_Goes N) N
theorem con_feed_Comes_ok (N : Nat) : (u_feed_Comes.con (W_feed_Comes N)).ok P0 := Uf.ok mixed (q_feed_Comes (W_feed_read N) (W_twin_Feed N) (W_feed_Knows N) (W_win_Put N) (W_nak_Goes N) N) ⟨con_feed_read_ok N, con_twin_Feed_ok N, con_feed_Knows_ok N, con_win_Put_ok N, con_nak_Goes_ok N, trivial⟩ Try.func6 (by kernel_rfl) fun x y => by kernel_rfl
noncomputable def u_win_First : Uf := ⟨55, 10, Try.f55, [.val (.list (.agg (.pair (.int .i64) .str)))], [],
⟨[(2, .val (.int .i64))], []⟩, [],
[],
[], fun y => (valW (.int .i64) y, [], [])⟩
noncomputable def V_win_First (N : Nat) (x : List (Int × List UInt8)) : Option (Int) :=
  cnd (decide ((↑(List.length x) : Int) = (0:Int))) (some (0:Int)) (cnd (decide ((0:Int) ≤ (0:Int)) && decide ((0:Int) < (↑(List.length x) : Int))) (some (Prod.fst (List.getD x (0:Nat) ((0:Int), [])))) none)
theorem q_win_First : ∀ N x, u_win_First.F L0 P0 (orcOf []) N x = V_win_First N x := by intros; kernel_rfl
noncomputable def W_win_First (N : Nat) := V_win_First N
theorem con_win_First_ok (N : Nat) : (u_win_First.con (W_win_First N)).ok P0 := Uf.ok mixed (q_win_First N) trivial Try.func55 (by kernel_rfl) fun x y => by kernel_rfl
noncomputable def u_nak_first : Uf := ⟨42, 19, Try.f42, [.val (.agg (.pair (.int .i64) (.pair (.int .i64) (.pair (.list (.agg (.pair (.int .i64) .str))) (.pair (.list (.agg (.pair (.int .i64) .str))) (.pair (.list (.agg (.pair (.int .i64) (.pair (.int .i64) (.pair (.int .i64) (.pair .str (.int .i64))))))) (.agg (.pair (.int .i64) (.int .i64)))))))))], [],
⟨[(2, .val (.alt 84 (.int .i64) (.alt1 99 (.agg .unit))))], []⟩, [],
[],
[], fun y => (valW (.alt 84 (.int .i64) (.alt1 99 (.agg .unit))) y, [], [])⟩
noncomputable def V_nak_first (w_win_First : List (Int × List UInt8) → Option (Int)) (N : Nat) (x : Int × Int × (List (Int × List UInt8)) × (List (Int × List UInt8)) × (List (Int × Int × Int × (List UInt8) × Int)) × Int × Int) : Option (Int ⊕ Unit) :=
  obind (w_win_First x.2.2.2.1) fun b => cnd (decide (x.1 ≤ b)) (cnd (decide ((0:Int) < b)) (some (Sum.inl b)) (some (Sum.inr ()))) (some (Sum.inr ()))
theorem q_nak_first : ∀ w_win_First N x, u_nak_first.F L0 P0 (orcOf [u_win_First.con w_win_First]) N x = V_nak_first w_win_First N x := by intros; kernel_rfl
noncomputable def W_nak_first (N : Nat) := V_nak_first (W_win_First N) N
theorem con_nak_first_ok (N : Nat) : (u_nak_first.con (W_nak_first N)).ok P0 := Uf.ok mixed (q_nak_first (W_win_First N) N) ⟨con_win_First_ok N, trivial⟩ Try.func42 (by kernel_rfl) fun x y => by kernel_rfl
noncomputable def u_nak_Wants : Uf := ⟨22, 34, Try.f22, [.val (.agg (.pair (.int .i64) (.pair (.int .i64) (.pair (.list (.agg (.pair (.int .i64) .str))) (.pair (.list (.agg (.pair (.int .i64) .str))) (.pair (.list (.agg (.pair (.int .i64) (.pair (.int .i64) (.pair (.int .i64) (.pair .str (.int .i64))))))) (.agg (.pair (.int .i64) (.int .i64)))))))))], [],
⟨[(2, .ptr 600002 0), (3, .val .bool)], [(600002, .box 45 (.val (.pair (.int .i64) (.int .i64))))]⟩, [],
[],
[(5, .cut [] [(.normal, ⟨[(1, .ptr 600001 0), (2, .ptr 600002 0), (4, .ptr 600004 0)], [(600001, .box 29 (.val (.pair (.int .i64) (.pair (.int .i64) (.pair (.list (.agg (.pair (.int .i64) .str))) (.pair (.list (.agg (.pair (.int .i64) .str))) (.pair (.list (.agg (.pair (.int .i64) (.pair (.int .i64) (.pair (.int .i64) (.pair .str (.int .i64))))))) (.agg (.pair (.int .i64) (.int .i64)))))))))), (600002, .box 45 (.val (.pair (.int .i64) (.int .i64)))), (600004, .box 45 (.val (.pair (.int .i64) (.int .i64))))]⟩)])], fun y => (.tup [valW (.agg (.pair (.int .i64) (.int .i64))) y.2, valW .bool y.1], [], [])⟩
noncomputable def V_nak_Wants (w_nak_first : Int × Int × (List (Int × List UInt8)) × (List (Int × List UInt8)) × (List (Int × Int × Int × (List UInt8) × Int)) × Int × Int → Option (Int ⊕ Unit)) (N : Nat) (x : Int × Int × (List (Int × List UInt8)) × (List (Int × List UInt8)) × (List (Int × Int × Int × (List UInt8) × Int)) × Int × Int) : Option (Bool × Int × Int) :=
  obind (obind (w_nak_first x) fun b => selim (fun (b : Int) => some (x, ((0:Int), (0:Int)), x.1, wr .i64 (b - (1:Int)))) (fun (c : PUnit) => some (x,
    ((0:Int), (0:Int)), x.1, x.2.1)) b) fun (b : (Int × Int × List (Int × List UInt8) × List (Int × List UInt8) × List (Int × Int × Int × List UInt8 ×
    Int) × Int × Int) × (Int × Int) × Int × Int) => cnd (decide (b.1.1 < (1:Int))) (some (false, (0:Int), (0:Int))) (cnd (decide (b.2.2.2 < b.2.2.1))
    (some (false, (0:Int), (0:Int))) (some (true, b.2.2)))
theorem q_nak_Wants : ∀ w_nak_first N x, u_nak_Wants.F L0 P0 (orcOf [u_nak_first.con w_nak_first]) N x = V_nak_Wants w_nak_first N x := by intros; kernel_rfl
noncomputable def W_nak_Wants (N : Nat) := V_nak_Wants (W_nak_first N) N
theorem con_nak_Wants_ok (N : Nat) : (u_nak_Wants.con (W_nak_Wants N)).ok P0 := Uf.ok mixed (q_nak_Wants (W_nak_first N) N) ⟨con_nak_first_ok N, trivial⟩ Try.func22 (by kernel_rfl) fun x y => by kernel_rfl
noncomputable def u_wait_read : Uf := ⟨43, 14, Try.f43, [.val (.agg (.pair (.int .i64) (.int .i64)))], [],
⟨[(2, .val (.alt 87 (.agg (.pair (.int .i64) (.int .i64))) (.alt1 100 (.agg .unit))))], []⟩, [],
[],
[], fun y => (valW (.alt 87 (.agg (.pair (.int .i64) (.int .i64))) (.alt1 100 (.agg .unit))) y, [], [])⟩
noncomputable def V_wait_read (N : Nat) (x : Int × Int) : Option ((Int × Int) ⊕ Unit) :=
  cnd (decide (x.1 = (0:Int))) (some (Sum.inr ())) (some (Sum.inl x))
theorem q_wait_read : ∀ N x, u_wait_read.F L0 P0 (orcOf []) N x = V_wait_read N x := by intros; kernel_rfl
noncomputable def W_wait_read (N : Nat) := V_wait_read N
theorem con_wait_read_ok (N : Nat) : (u_wait_read.con (W_wait_read N)).ok P0 := Uf.ok mixed (q_wait_read N) trivial Try.func43 (by kernel_rfl) fun x y => by kernel_rfl
noncomputable def u_wait_Now : Uf := ⟨23, 21, Try.f23, [.val (.agg (.pair (.int .i64) (.int .i64))), .val (.int .i64)], [],
⟨[(4, .val .bool)], []⟩, [],
[],
[], fun y => (valW .bool y, [], [])⟩
noncomputable def V_wait_Now (w_wait_read : Int × Int → Option ((Int × Int) ⊕ Unit)) (N : Nat) (x : (Int × Int) × Int) : Option (Bool) :=
  obind (w_wait_read x.1) fun b => selim (fun (b : Int × Int) => some (decide (b.2 ≤ x.2))) (fun (c : PUnit) => some true) b
theorem q_wait_Now : ∀ w_wait_read N x, u_wait_Now.F L0 P0 (orcOf [u_wait_read.con w_wait_read]) N x = V_wait_Now w_wait_read N x := by intros; kernel_rfl
noncomputable def W_wait_Now (N : Nat) := V_wait_Now (W_wait_read N) N
theorem con_wait_Now_ok (N : Nat) : (u_wait_Now.con (W_wait_Now N)).ok P0 := Uf.ok mixed (q_wait_Now (W_wait_read N) N) ⟨con_wait_read_ok N, trivial⟩ Try.func23 (by kernel_rfl) fun x y => by kernel_rfl
noncomputable def u_wait_Tired : Uf := ⟨24, 17, Try.f24, [.val (.agg (.pair (.int .i64) (.int .i64)))], [],
⟨[(2, .val .bool)], []⟩, [],
[],
[], fun y => (valW .bool y, [], [])⟩
noncomputable def V_wait_Tired (w_wait_read : Int × Int → Option ((Int × Int) ⊕ Unit)) (N : Nat) (x : Int × Int) : Option (Bool) :=
  obind (w_wait_read x) fun b => selim (fun (b : Int × Int) => some (decide ((3:Int) ≤ b.1))) (fun (c : PUnit) => some false) b
theorem q_wait_Tired : ∀ w_wait_read N x, u_wait_Tired.F L0 P0 (orcOf [u_wait_read.con w_wait_read]) N x = V_wait_Tired w_wait_read N x := by intros; kernel_rfl
noncomputable def W_wait_Tired (N : Nat) := V_wait_Tired (W_wait_read N) N
theorem con_wait_Tired_ok (N : Nat) : (u_wait_Tired.con (W_wait_Tired N)).ok P0 := Uf.ok mixed (q_wait_Tired (W_wait_read N) N) ⟨con_wait_read_ok N, trivial⟩ Try.func24 (by kernel_rfl) fun x y => by kernel_rfl
noncomputable def u_log_Skip : Uf := ⟨45, 17, Try.f45, [.val (.list (.agg (.pair (.int .i64) (.pair (.int .i64) (.pair (.int .i64) (.pair .str (.int .i64))))))), .val (.int .i64), .val (.int .i64), .val (.int .i64)], [],
⟨[(8, .val (.list (.agg (.pair (.int .i64) (.pair (.int .i64) (.pair (.int .i64) (.pair .str (.int .i64))))))))], []⟩, [],
[],
[], fun y => (valW (.list (.agg (.pair (.int .i64) (.pair (.int .i64) (.pair (.int .i64) (.pair .str (.int .i64))))))) y, [], [])⟩
noncomputable def V_log_Skip (w_slices_Clone_api_Event : List (Int × Int × Int × (List UInt8) × Int) → Option (List (Int × Int × Int × (List UInt8) × Int))) (N : Nat) (x : (List (Int × Int × Int × (List UInt8) × Int)) × Int × Int × Int) : Option (List (Int × Int × Int × (List UInt8) × Int)) :=
  obind (w_slices_Clone_api_Event x.1) fun b => cnd (decide ((List.length b + (1:Nat)) * (48:Nat) ≤ (140737488355328:Nat))) (some (b ++ [((2:Int), x.2.1, x.2.2.1, [], x.2.2.2)])) none
theorem q_log_Skip : ∀ w_slices_Clone_api_Event N x, u_log_Skip.F L0 P0 (orcOf [conw_slices_Clone_api_Event w_slices_Clone_api_Event]) N x = V_log_Skip w_slices_Clone_api_Event N x := by intros; kernel_rfl
noncomputable def W_log_Skip (N : Nat) := V_log_Skip (W_slices_Clone_api_Event N) N
theorem con_log_Skip_ok (N : Nat) : (u_log_Skip.con (W_log_Skip N)).ok P0 := Uf.ok mixed (q_log_Skip (W_slices_Clone_api_Event N) N) ⟨con_slices_Clone_api_Event_ok N, trivial⟩ Try.func45 (by kernel_rfl) fun x y => by kernel_rfl
noncomputable def u_nak_Skips : Uf := ⟨25, 66, Try.f25, [.val (.agg (.pair (.int .i64) (.pair (.int .i64) (.pair (.list (.agg (.pair (.int .i64) .str))) (.pair (.list (.agg (.pair (.int .i64) .str))) (.pair (.list (.agg (.pair (.int .i64) (.pair (.int .i64) (.pair (.int .i64) (.pair .str (.int .i64))))))) (.agg (.pair (.int .i64) (.int .i64))))))))), .val (.int .i64), .val (.int .i64)], [],
⟨[(6, .ptr 600006 0), (7, .val (.list (.agg (.pair (.int .i64) (.int .i64)))))], [(600006, .box 29 (.val (.pair (.int .i64) (.pair (.int .i64) (.pair (.list (.agg (.pair (.int .i64) .str))) (.pair (.list (.agg (.pair (.int .i64) .str))) (.pair (.list (.agg (.pair (.int .i64) (.pair (.int .i64) (.pair (.int .i64) (.pair .str (.int .i64))))))) (.agg (.pair (.int .i64) (.int .i64))))))))))]⟩, [],
[(6, .loop [] ⟨[(3, .ptr 600003 0), (6, .ptr 600006 0), (8, .ptr 600008 0), (9, .ptr 600009 0), (10, .fn 44 [600008, 600005, 600009])], [(600003, .box 29 (.val (.pair (.int .i64) (.pair (.int .i64) (.pair (.list (.agg (.pair (.int .i64) .str))) (.pair (.list (.agg (.pair (.int .i64) .str))) (.pair (.list (.agg (.pair (.int .i64) (.pair (.int .i64) (.pair (.int .i64) (.pair .str (.int .i64))))))) (.agg (.pair (.int .i64) (.int .i64)))))))))), (600006, .box 29 (.val (.pair (.int .i64) (.pair (.int .i64) (.pair (.list (.agg (.pair (.int .i64) .str))) (.pair (.list (.agg (.pair (.int .i64) .str))) (.pair (.list (.agg (.pair (.int .i64) (.pair (.int .i64) (.pair (.int .i64) (.pair .str (.int .i64))))))) (.agg (.pair (.int .i64) (.int .i64)))))))))), (600008, .box 29 (.val (.pair (.int .i64) (.pair (.int .i64) (.pair (.list (.agg (.pair (.int .i64) .str))) (.pair (.list (.agg (.pair (.int .i64) .str))) (.pair (.list (.agg (.pair (.int .i64) (.pair (.int .i64) (.pair (.int .i64) (.pair .str (.int .i64))))))) (.agg (.pair (.int .i64) (.int .i64)))))))))), (600009, .box 65 (.acc 601009)), (601009, .nrow 45 (.agg (.pair (.int .i64) (.int .i64))) true true), (600005, .box 3 (.val (.int .i64)))]⟩ [(.exit 0, ⟨[(3, .ptr 600003 0), (6, .ptr 600006 0), (8, .ptr 600008 0), (9, .ptr 600009 0)], [(600003, .box 29 (.val (.pair (.int .i64) (.pair (.int .i64) (.pair (.list (.agg (.pair (.int .i64) .str))) (.pair (.list (.agg (.pair (.int .i64) .str))) (.pair (.list (.agg (.pair (.int .i64) (.pair (.int .i64) (.pair (.int .i64) (.pair .str (.int .i64))))))) (.agg (.pair (.int .i64) (.int .i64)))))))))), (600006, .box 29 (.val (.pair (.int .i64) (.pair (.int .i64) (.pair (.list (.agg (.pair (.int .i64) .str))) (.pair (.list (.agg (.pair (.int .i64) .str))) (.pair (.list (.agg (.pair (.int .i64) (.pair (.int .i64) (.pair (.int .i64) (.pair .str (.int .i64))))))) (.agg (.pair (.int .i64) (.int .i64)))))))))), (600008, .box 29 (.val (.pair (.int .i64) (.pair (.int .i64) (.pair (.list (.agg (.pair (.int .i64) .str))) (.pair (.list (.agg (.pair (.int .i64) .str))) (.pair (.list (.agg (.pair (.int .i64) (.pair (.int .i64) (.pair (.int .i64) (.pair .str (.int .i64))))))) (.agg (.pair (.int .i64) (.int .i64)))))))))), (600009, .box 65 (.acc 601009)), (601009, .nrow 45 (.agg (.pair (.int .i64) (.int .i64))) true true)]⟩)])],
[(12, .cut [] [(.normal, ⟨[(3, .ptr 600003 0), (6, .ptr 600006 0), (8, .ptr 600008 0), (9, .ptr 600009 0), (10, .fn 44 [600008, 600005, 600009])], [(600003, .box 29 (.val (.pair (.int .i64) (.pair (.int .i64) (.pair (.list (.agg (.pair (.int .i64) .str))) (.pair (.list (.agg (.pair (.int .i64) .str))) (.pair (.list (.agg (.pair (.int .i64) (.pair (.int .i64) (.pair (.int .i64) (.pair .str (.int .i64))))))) (.agg (.pair (.int .i64) (.int .i64)))))))))), (600006, .box 29 (.val (.pair (.int .i64) (.pair (.int .i64) (.pair (.list (.agg (.pair (.int .i64) .str))) (.pair (.list (.agg (.pair (.int .i64) .str))) (.pair (.list (.agg (.pair (.int .i64) (.pair (.int .i64) (.pair (.int .i64) (.pair .str (.int .i64))))))) (.agg (.pair (.int .i64) (.int .i64)))))))))), (600008, .box 29 (.val (.pair (.int .i64) (.pair (.int .i64) (.pair (.list (.agg (.pair (.int .i64) .str))) (.pair (.list (.agg (.pair (.int .i64) .str))) (.pair (.list (.agg (.pair (.int .i64) (.pair (.int .i64) (.pair (.int .i64) (.pair .str (.int .i64))))))) (.agg (.pair (.int .i64) (.int .i64)))))))))), (600009, .box 65 (.acc 601009)), (601009, .nrow 45 (.agg (.pair (.int .i64) (.int .i64))) true true), (600005, .box 3 (.val (.int .i64)))]⟩)])], fun y => (.tup [valW (.agg (.pair (.int .i64) (.pair (.int .i64) (.pair (.list (.agg (.pair (.int .i64) .str))) (.pair (.list (.agg (.pair (.int .i64) .str))) (.pair (.list (.agg (.pair (.int .i64) (.pair (.int .i64) (.pair (.int .i64) (.pair .str (.int .i64))))))) (.agg (.pair (.int .i64) (.int .i64))))))))) y.2, valW (.list (.agg (.pair (.int .i64) (.int .i64)))) y.1], [], [])⟩
noncomputable def V_nak_Skips (w_twin_Feed : Int × Int × (List (Int × List UInt8)) × (List (Int × List UInt8)) × (List (Int × Int × Int × (List UInt8) × Int)) × Int × Int → Option (Int × Int × (List (Int × List UInt8)) × (List (Int × List UInt8)) × (List (Int × Int × Int × (List UInt8) × Int)) × Int × Int)) (w_nak_first : Int × Int × (List (Int × List UInt8)) × (List (Int × List UInt8)) × (List (Int × Int × Int × (List UInt8) × Int)) × Int × Int → Option (Int ⊕ Unit)) (w_log_Skip : (List (Int × Int × Int × (List UInt8) × Int)) × Int × Int × Int → Option (List (Int × Int × Int × (List UInt8) × Int))) (w_nak_Goes : Int × Int × (List (Int × List UInt8)) × (List (Int × List UInt8)) × (List (Int × Int × Int × (List UInt8) × Int)) × Int × Int → Option ((List (Int × List UInt8)) × Int × Int × (List (Int × List UInt8)) × (List (Int × List UInt8)) × (List (Int × Int × Int × (List UInt8) × Int)) × Int × Int)) (w_wait_Start : Unit → Option (Int × Int)) (N : Nat) (x : (Int × Int × (List (Int × List UInt8)) × (List (Int × List UInt8)) × (List (Int × Int × Int × (List UInt8) × Int)) × Int × Int) × Int × Int) : Option ((List (Int × Int)) × Int × Int × (List (Int × List UInt8)) × (List (Int × List UInt8)) × (List (Int × Int × Int × (List UInt8) × Int)) × Int × Int) :=
  obind (w_twin_Feed x.1) fun b => cnd (decide (x.1.1 < (1:Int))) (some ([], b)) (cnd (decide ((1000000:Int) < x.2.1)) (some ([], b)) (obind (loopN N
    (fun (v : (Int × Int × List (Int × List UInt8) × List (Int × List UInt8) × List (Int × Int × Int × List UInt8 × Int) × Int × Int) × (Int × Int ×
    List (Int × List UInt8) × List (Int × List UInt8) × List (Int × Int × Int × List UInt8 × Int) × Int × Int) × (Int × Int × List (Int × List UInt8) ×
    List (Int × List UInt8) × List (Int × Int × Int × List UInt8 × Int) × Int × Int) × List (Int × Int) × Int) => cnd (decide (v.2.2.1.1 ≤ x.2.1))
    (obind (w_nak_first v.2.2.1) fun b => selim (fun (b : Int) => cnd (decide (x.2.1 < b)) (obind (w_log_Skip (v.2.2.1.2.2.2.2.1, v.2.2.1.1, x.2.1,
    v.2.2.2.2)) fun b => cnd (decide ((List.length v.2.2.2.1 + List.length [(v.2.2.1.1, x.2.1)]) * (16:Nat) ≤ (140737488355328:Nat))) (some (Sum.inl
    (v.1, v.2.1, (wr .i64 (x.2.1 + (1:Int)), v.2.2.1.2.1, v.2.2.1.2.2.1, v.2.2.1.2.2.2.1, b, v.2.2.1.2.2.2.2.2), v.2.2.2.1 ++ [(v.2.2.1.1, x.2.1)],
    v.2.2.2.2))) none) (obind (cnd (decide (v.2.2.1.1 < b)) (obind (w_log_Skip (v.2.2.1.2.2.2.2.1, v.2.2.1.1, wr .i64 (b - (1:Int)), v.2.2.2.2)) fun
    b_1 => cnd (decide ((List.length v.2.2.2.1 + List.length [(v.2.2.1.1, wr .i64 (b - (1:Int)))]) * (16:Nat) ≤ (140737488355328:Nat))) (some (v.1,
    v.2.1, (wr .i64 (wr .i64 (b - (1:Int)) + (1:Int)), v.2.2.1.2.1, v.2.2.1.2.2.1, v.2.2.1.2.2.2.1, b_1, v.2.2.1.2.2.2.2.2), v.2.2.2.1 ++ [(v.2.2.1.1,
    wr .i64 (b - (1:Int)))], v.2.2.2.2)) none) (some v)) fun (b : (Int × Int × List (Int × List UInt8) × List (Int × List UInt8) × List (Int × Int × Int
    × List UInt8 × Int) × Int × Int) × (Int × Int × List (Int × List UInt8) × List (Int × List UInt8) × List (Int × Int × Int × List UInt8 × Int) × Int
    × Int) × (Int × Int × List (Int × List UInt8) × List (Int × List UInt8) × List (Int × Int × Int × List UInt8 × Int) × Int × Int) × List (Int × Int)
    × Int) => obind (w_nak_Goes b.2.2.1) fun b_1 => some (Sum.inl (b.1, b.2.1, b_1.2, b.2.2.2)))) (fun (c : PUnit) => obind (w_log_Skip
    (v.2.2.1.2.2.2.2.1, v.2.2.1.1, x.2.1, v.2.2.2.2)) fun b => cnd (decide ((List.length v.2.2.2.1 + List.length [(v.2.2.1.1, x.2.1)]) * (16:Nat) ≤
    (140737488355328:Nat))) (some (Sum.inl (v.1, v.2.1, (wr .i64 (x.2.1 + (1:Int)), v.2.2.1.2.1, v.2.2.1.2.2.1, v.2.2.1.2.2.2.1, b, v.2.2.1.2.2.2.2.2),
    v.2.2.2.1 ++ [(v.2.2.1.1, x.2.1)], v.2.2.2.2))) none) b) (some (Sum.inr (v.1, v.2.1, v.2.2.1, v.2.2.2.1)))) (x.1, ((0:Int), (0:Int), [], [], [],
    (0:Int), (0:Int)), b, [], x.2.2)) fun (b : (Int × Int × List (Int × List UInt8) × List (Int × List UInt8) × List (Int × Int × Int × List UInt8 ×
    Int) × Int × Int) × (Int × Int × List (Int × List UInt8) × List (Int × List UInt8) × List (Int × Int × Int × List UInt8 × Int) × Int × Int) × (Int ×
    Int × List (Int × List UInt8) × List (Int × List UInt8) × List (Int × Int × Int × List UInt8 × Int) × Int × Int) × List (Int × Int)) => cnd (decide
    (b.2.2.1.1 ≠ b.1.1)) (obind (w_wait_Start ()) fun b_1 => some (b.2.2.2, b.2.2.1.1, b.2.2.1.2.1, b.2.2.1.2.2.1, b.2.2.1.2.2.2.1, b.2.2.1.2.2.2.2.1,
    b_1)) (some (b.2.2.2, b.2.2.1))))
theorem q_nak_Skips : ∀ w_twin_Feed w_nak_first w_log_Skip w_nak_Goes w_wait_Start N x, u_nak_Skips.F L0 P0 (orcOf [u_twin_Feed.con w_twin_Feed, u_nak_first.con w_nak_first, u_log_Skip.con w_log_Skip, u_nak_Goes.con w_nak_Goes, u_wait_Start.con w_wait_Start]) N x = V_nak_Skips w_twin_Feed w_nak_first w_log_Skip w_nak_Goes w_wait_Start N x := by intros; kernel_rfl
noncomputable def W_nak_Skips (N : Nat) := V_nak_Skips (W_twin_Feed N) (W_nak_first N) (W_log_Skip N) (W_nak_Goes N) (W_wait_Start N) N
theorem con_nak_Skips_ok (N : Nat) : (u_nak_Skips.con (W_nak_Skips N)).ok P0 := Uf.ok mixed (q_nak_Skips (W_twin_Feed N) (W_nak_first N) (W_log_Skip N) (W_nak_Goes N) (W_wait_Start N) N) ⟨con_twin_Feed_ok N, con_nak_first_ok N, con_log_Skip_ok N, con_nak_Goes_ok N, con_wait_Start_ok N, trivial⟩ Try.func25 (by kernel_rfl) fun x y => by kernel_rfl
noncomputable def u_wait_Tried : Uf := ⟨26, 26, Try.f26, [.val (.agg (.pair (.int .i64) (.int .i64))), .val (.int .i64)], [],
⟨[(4, .ptr 600004 0)], [(600004, .box 27 (.val (.pair (.int .i64) (.int .i64))))]⟩, [],
[],
[], fun y => (valW (.agg (.pair (.int .i64) (.int .i64))) y, [], [])⟩
noncomputable def V_wait_Tried (w_wait_read : Int × Int → Option ((Int × Int) ⊕ Unit)) (N : Nat) (x : (Int × Int) × Int) : Option (Int × Int) :=
  obind (w_wait_read x.1) fun b => selim (fun (b : Int × Int) => cnd (!decide (min (max b.1 (0:Int)) (3:Int) < (0:Int))) (some (wr .i64 (b.1 +
    (1:Int)), wr .i64 (x.2 + wr .i64 ((2:Int) * (2:Int) ^ min (Int.toNat (min (max b.1 (0:Int)) (3:Int))) (64:Nat))))) none) (fun (c : PUnit) => some
    (wr .i64 ((0:Int) + (1:Int)), wr .i64 (x.2 + wr .i64 ((2:Int) * (2:Int) ^ (0:Nat))))) b
theorem q_wait_Tried : ∀ w_wait_read N x, u_wait_Tried.F L0 P0 (orcOf [u_wait_read.con w_wait_read]) N x = V_wait_Tried w_wait_read N x := by intros; kernel_rfl
noncomputable def W_wait_Tried (N : Nat) := V_wait_Tried (W_wait_read N) N
theorem con_wait_Tried_ok (N : Nat) : (u_wait_Tried.con (W_wait_Tried N)).ok P0 := Uf.ok mixed (q_wait_Tried (W_wait_read N) N) ⟨con_wait_read_ok N, trivial⟩ Try.func26 (by kernel_rfl) fun x y => by kernel_rfl
noncomputable def u_feed_Tick : Uf := ⟨8, 52, Try.f8, [.val (.agg (.pair (.int .i64) (.pair (.int .i64) (.pair (.list (.agg (.pair (.int .i64) .str))) (.pair (.list (.agg (.pair (.int .i64) .str))) (.pair (.list (.agg (.pair (.int .i64) (.pair (.int .i64) (.pair (.int .i64) (.pair .str (.int .i64))))))) (.agg (.pair (.int .i64) (.int .i64))))))))), .val (.int .i64)], [],
⟨[(4, .ptr 600004 0), (5, .ptr 600005 0), (6, .val .bool)], [(600004, .box 29 (.val (.pair (.int .i64) (.pair (.int .i64) (.pair (.list (.agg (.pair (.int .i64) .str))) (.pair (.list (.agg (.pair (.int .i64) .str))) (.pair (.list (.agg (.pair (.int .i64) (.pair (.int .i64) (.pair (.int .i64) (.pair .str (.int .i64))))))) (.agg (.pair (.int .i64) (.int .i64)))))))))), (600005, .box 45 (.val (.pair (.int .i64) (.int .i64))))]⟩, [],
[],
[], fun y => (.tup [valW (.agg (.pair (.int .i64) (.pair (.int .i64) (.pair (.list (.agg (.pair (.int .i64) .str))) (.pair (.list (.agg (.pair (.int .i64) .str))) (.pair (.list (.agg (.pair (.int .i64) (.pair (.int .i64) (.pair (.int .i64) (.pair .str (.int .i64))))))) (.agg (.pair (.int .i64) (.int .i64))))))))) y.2.1, valW (.agg (.pair (.int .i64) (.int .i64))) y.2.2, valW .bool y.1], [], [])⟩
noncomputable def V_feed_Tick (w_twin_Feed : Int × Int × (List (Int × List UInt8)) × (List (Int × List UInt8)) × (List (Int × Int × Int × (List UInt8) × Int)) × Int × Int → Option (Int × Int × (List (Int × List UInt8)) × (List (Int × List UInt8)) × (List (Int × Int × Int × (List UInt8) × Int)) × Int × Int)) (w_nak_Wants : Int × Int × (List (Int × List UInt8)) × (List (Int × List UInt8)) × (List (Int × Int × Int × (List UInt8) × Int)) × Int × Int → Option (Bool × Int × Int)) (w_wait_Now : (Int × Int) × Int → Option (Bool)) (w_wait_Tired : Int × Int → Option (Bool)) (w_nak_Skips : (Int × Int × (List (Int × List UInt8)) × (List (Int × List UInt8)) × (List (Int × Int × Int × (List UInt8) × Int)) × Int × Int) × Int × Int → Option ((List (Int × Int)) × Int × Int × (List (Int × List UInt8)) × (List (Int × List UInt8)) × (List (Int × Int × Int × (List UInt8) × Int)) × Int × Int)) (w_nak_Goes : Int × Int × (List (Int × List UInt8)) × (List (Int × List UInt8)) × (List (Int × Int × Int × (List UInt8) × Int)) × Int × Int → Option ((List (Int × List UInt8)) × Int × Int × (List (Int × List UInt8)) × (List (Int × List UInt8)) × (List (Int × Int × Int × (List UInt8) × Int)) × Int × Int)) (w_wait_Tried : (Int × Int) × Int → Option (Int × Int)) (N : Nat) (x : (Int × Int × (List (Int × List UInt8)) × (List (Int × List UInt8)) × (List (Int × Int × Int × (List UInt8) × Int)) × Int × Int) × Int) : Option (Bool × (Int × Int × (List (Int × List UInt8)) × (List (Int × List UInt8)) × (List (Int × Int × Int × (List UInt8) × Int)) × Int × Int) × Int × Int) :=
  obind (w_twin_Feed x.1) fun b => obind (w_nak_Wants x.1) fun b_1 => cnd (!b_1.1) (some (false, b, (0:Int), (0:Int))) (obind (w_wait_Now
    (x.1.2.2.2.2.2, x.2)) fun b_2 => cnd (!b_2) (some (false, b, (0:Int), (0:Int))) (obind (w_wait_Tired x.1.2.2.2.2.2) fun b_3 => cnd b_3 (obind
    (w_nak_Skips (b, b_1.2.2, (2:Int))) fun b => obind (w_nak_Goes b.2) fun b => some (false, b.2, (0:Int), (0:Int))) (obind (w_wait_Tried
    (x.1.2.2.2.2.2, x.2)) fun b_4 => some (true, (b.1, b.2.1, b.2.2.1, b.2.2.2.1, b.2.2.2.2.1, b_4), b_1.2))))
theorem q_feed_Tick : ∀ w_twin_Feed w_nak_Wants w_wait_Now w_wait_Tired w_nak_Skips w_nak_Goes w_wait_Tried N x, u_feed_Tick.F L0 P0 (orcOf [u_twin_Feed.con w_twin_Feed, u_nak_Wants.con w_nak_Wants, u_wait_Now.con w_wait_Now, u_wait_Tired.con w_wait_Tired, u_nak_Skips.con w_nak_Skips, u_nak_Goes.con w_nak_Goes, u_wait_Tried.con w_wait_Tried]) N x = V_feed_Tick w_twin_Feed w_nak_Wants w_wait_Now w_wait_Tired w_nak_Skips w_nak_Goes w_wait_Tried N x := by intros; kernel_rfl
noncomputable def W_feed_Tick (N : Nat) := V_feed_Tick (W_twin_Feed N) (W_nak_Wants N) (W_wait_Now N) (W_wait_Tired N) (W_nak_Skips N) (W_nak_Goes N) (W_wait_Tried N) N
theorem con_feed_Tick_ok (N : Nat) : (u_feed_Tick.con (W_feed_Tick N)).ok P0 := Uf.ok mixed (q_feed_Tick (W_twin_Feed N) (W_nak_Wants N) (W_wait_Now N) (W_wait_Tired N) (W_nak_Skips N) (W_nak_Goes N) (W_wait_Tried N) N) ⟨con_twin_Feed_ok N, con_nak_Wants_ok N, con_wait_Now_ok N, con_wait_Tired_ok N, con_nak_Skips_ok N, con_nak_Goes_ok N, con_wait_Tried_ok N, trivial⟩ Try.func8 (by kernel_rfl) fun x y => by kernel_rfl
noncomputable def u_feed_Say : Uf := ⟨9, 48, Try.f9, [.val (.agg (.pair (.int .i64) (.pair (.int .i64) (.pair (.list (.agg (.pair (.int .i64) .str))) (.pair (.list (.agg (.pair (.int .i64) .str))) (.pair (.list (.agg (.pair (.int .i64) (.pair (.int .i64) (.pair (.int .i64) (.pair .str (.int .i64))))))) (.agg (.pair (.int .i64) (.int .i64))))))))), .val .str], [],
⟨[(4, .ptr 600004 0), (5, .val .bool)], [(600004, .box 29 (.val (.pair (.int .i64) (.pair (.int .i64) (.pair (.list (.agg (.pair (.int .i64) .str))) (.pair (.list (.agg (.pair (.int .i64) .str))) (.pair (.list (.agg (.pair (.int .i64) (.pair (.int .i64) (.pair (.int .i64) (.pair .str (.int .i64))))))) (.agg (.pair (.int .i64) (.int .i64))))))))))]⟩, [],
[],
[(6, .cut [] [(.normal, ⟨[(4, .ptr 600004 0), (6, .ptr 600006 0), (7, .val (.int .i64))], [(600004, .box 29 (.val (.pair (.int .i64) (.pair (.int .i64) (.pair (.list (.agg (.pair (.int .i64) .str))) (.pair (.list (.agg (.pair (.int .i64) .str))) (.pair (.list (.agg (.pair (.int .i64) (.pair (.int .i64) (.pair (.int .i64) (.pair .str (.int .i64))))))) (.agg (.pair (.int .i64) (.int .i64)))))))))), (600006, .box 29 (.val (.pair (.int .i64) (.pair (.int .i64) (.pair (.list (.agg (.pair (.int .i64) .str))) (.pair (.list (.agg (.pair (.int .i64) .str))) (.pair (.list (.agg (.pair (.int .i64) (.pair (.int .i64) (.pair (.int .i64) (.pair .str (.int .i64))))))) (.agg (.pair (.int .i64) (.int .i64))))))))))]⟩)])], fun y => (.tup [valW (.agg (.pair (.int .i64) (.pair (.int .i64) (.pair (.list (.agg (.pair (.int .i64) .str))) (.pair (.list (.agg (.pair (.int .i64) .str))) (.pair (.list (.agg (.pair (.int .i64) (.pair (.int .i64) (.pair (.int .i64) (.pair .str (.int .i64))))))) (.agg (.pair (.int .i64) (.int .i64))))))))) y.2, valW .bool y.1], [], [])⟩
noncomputable def V_feed_Say (w_twin_Feed : Int × Int × (List (Int × List UInt8)) × (List (Int × List UInt8)) × (List (Int × Int × Int × (List UInt8) × Int)) × Int × Int → Option (Int × Int × (List (Int × List UInt8)) × (List (Int × List UInt8)) × (List (Int × Int × Int × (List UInt8) × Int)) × Int × Int)) (w_feed_read : Int × Int × (List (Int × List UInt8)) × (List (Int × List UInt8)) × (List (Int × Int × Int × (List UInt8) × Int)) × Int × Int → Option (Int ⊕ Unit)) (w_log_Tell : (List (Int × Int × Int × (List UInt8) × Int)) × Int × List UInt8 → Option (List (Int × Int × Int × (List UInt8) × Int))) (w_ring_Add : (List (Int × List UInt8)) × Int × List UInt8 → Option (List (Int × List UInt8))) (N : Nat) (x : (Int × Int × (List (Int × List UInt8)) × (List (Int × List UInt8)) × (List (Int × Int × Int × (List UInt8) × Int)) × Int × Int) × List UInt8) : Option (Bool × Int × Int × (List (Int × List UInt8)) × (List (Int × List UInt8)) × (List (Int × Int × Int × (List UInt8) × Int)) × Int × Int) :=
  obind (w_twin_Feed x.1) fun b => obind (obind (w_feed_read x.1) fun b_1 => selim (fun (b_2 : Int) => some (b_2, ((0:Int), (0:Int), [], [], [],
    (0:Int), (0:Int)), b)) (fun (c : PUnit) => some ((1:Int), ((0:Int), (0:Int), [], [], [], (0:Int), (0:Int)), b)) b_1) fun (b : Int × (Int × Int ×
    List (Int × List UInt8) × List (Int × List UInt8) × List (Int × Int × Int × List UInt8 × Int) × Int × Int) × Int × Int × List (Int × List UInt8) ×
    List (Int × List UInt8) × List (Int × Int × Int × List UInt8 × Int) × Int × Int) => cnd (decide ((12:Int) < (↑(List.length x.2) : Int))) (some
    (false, b.2.2)) (cnd (decide ((1000000:Int) < b.1)) (some (false, b.2.2)) (obind (w_log_Tell (b.2.2.2.2.2.2.1, b.1, x.2)) fun b_1 => obind
    (w_ring_Add (b.2.2.2.2.1, b.1, x.2)) fun b_2 => some (true, wr .i64 (b.1 + (1:Int)), b.1, b_2, b.2.2.2.2.2.1, b_1, b.2.2.2.2.2.2.2)))
theorem q_feed_Say : ∀ w_twin_Feed w_feed_read w_log_Tell w_ring_Add N x, u_feed_Say.F L0 P0 (orcOf [u_twin_Feed.con w_twin_Feed, u_feed_read.con w_feed_read, u_log_Tell.con w_log_Tell, u_ring_Add.con w_ring_Add]) N x = V_feed_Say w_twin_Feed w_feed_read w_log_Tell w_ring_Add N x := by intros; kernel_rfl
noncomputable def W_feed_Say (N : Nat) := V_feed_Say (W_twin_Feed N) (W_feed_read N) (W_log_Tell N) (W_ring_Add N) N
theorem con_feed_Say_ok (N : Nat) : (u_feed_Say.con (W_feed_Say N)).ok P0 := Uf.ok mixed (q_feed_Say (W_twin_Feed N) (W_feed_read N) (W_log_Tell N) (W_ring_Add N) N) ⟨con_twin_Feed_ok N, con_feed_read_ok N, con_log_Tell_ok N, con_ring_Add_ok N, trivial⟩ Try.func9 (by kernel_rfl) fun x y => by kernel_rfl
noncomputable def u_feed_Notes : Uf := ⟨10, 59, Try.f10, [.val (.agg (.pair (.int .i64) (.pair (.int .i64) (.pair (.list (.agg (.pair (.int .i64) .str))) (.pair (.list (.agg (.pair (.int .i64) .str))) (.pair (.list (.agg (.pair (.int .i64) (.pair (.int .i64) (.pair (.int .i64) (.pair .str (.int .i64))))))) (.agg (.pair (.int .i64) (.int .i64))))))))), .val (.int .i64), .val (.int .i64)], [],
⟨[(6, .ptr 600006 0)], [(600006, .box 29 (.val (.pair (.int .i64) (.pair (.int .i64) (.pair (.list (.agg (.pair (.int .i64) .str))) (.pair (.list (.agg (.pair (.int .i64) .str))) (.pair (.list (.agg (.pair (.int .i64) (.pair (.int .i64) (.pair (.int .i64) (.pair .str (.int .i64))))))) (.agg (.pair (.int .i64) (.int .i64))))))))))]⟩, [],
[],
[(1000002, .reg [(6, [], ⟨[(3, .ptr 600003 0), (6, .ptr 600006 0), (7, .ptr 600007 0), (21, .val .bool)], [(600003, .box 29 (.val (.pair (.int .i64) (.pair (.int .i64) (.pair (.list (.agg (.pair (.int .i64) .str))) (.pair (.list (.agg (.pair (.int .i64) .str))) (.pair (.list (.agg (.pair (.int .i64) (.pair (.int .i64) (.pair (.int .i64) (.pair .str (.int .i64))))))) (.agg (.pair (.int .i64) (.int .i64)))))))))), (600006, .box 29 (.val (.pair (.int .i64) (.pair (.int .i64) (.pair (.list (.agg (.pair (.int .i64) .str))) (.pair (.list (.agg (.pair (.int .i64) .str))) (.pair (.list (.agg (.pair (.int .i64) (.pair (.int .i64) (.pair (.int .i64) (.pair .str (.int .i64))))))) (.agg (.pair (.int .i64) (.int .i64)))))))))), (600007, .box 53 (.val (.int .i64)))]⟩), (5, [], ⟨[(3, .ptr 600003 0), (6, .ptr 600006 0), (7, .ptr 600007 0), (26, .val .bool)], [(600003, .box 29 (.val (.pair (.int .i64) (.pair (.int .i64) (.pair (.list (.agg (.pair (.int .i64) .str))) (.pair (.list (.agg (.pair (.int .i64) .str))) (.pair (.list (.agg (.pair (.int .i64) (.pair (.int .i64) (.pair (.int .i64) (.pair .str (.int .i64))))))) (.agg (.pair (.int .i64) (.int .i64)))))))))), (600006, .box 29 (.val (.pair (.int .i64) (.pair (.int .i64) (.pair (.list (.agg (.pair (.int .i64) .str))) (.pair (.list (.agg (.pair (.int .i64) .str))) (.pair (.list (.agg (.pair (.int .i64) (.pair (.int .i64) (.pair (.int .i64) (.pair .str (.int .i64))))))) (.agg (.pair (.int .i64) (.int .i64)))))))))), (600007, .box 53 (.val (.int .i64)))]⟩)])], fun y => (valW (.agg (.pair (.int .i64) (.pair (.int .i64) (.pair (.list (.agg (.pair (.int .i64) .str))) (.pair (.list (.agg (.pair (.int .i64) .str))) (.pair (.list (.agg (.pair (.int .i64) (.pair (.int .i64) (.pair (.int .i64) (.pair .str (.int .i64))))))) (.agg (.pair (.int .i64) (.int .i64))))))))) y, [], [])⟩
noncomputable def V_feed_Notes (w_feed_read : Int × Int × (List (Int × List UInt8)) × (List (Int × List UInt8)) × (List (Int × Int × Int × (List UInt8) × Int)) × Int × Int → Option (Int ⊕ Unit)) (w_twin_Feed : Int × Int × (List (Int × List UInt8)) × (List (Int × List UInt8)) × (List (Int × Int × Int × (List UInt8) × Int)) × Int × Int → Option (Int × Int × (List (Int × List UInt8)) × (List (Int × List UInt8)) × (List (Int × Int × Int × (List UInt8) × Int)) × Int × Int)) (w_feed_Knows : (Int × Int × (List (Int × List UInt8)) × (List (Int × List UInt8)) × (List (Int × Int × Int × (List UInt8) × Int)) × Int × Int) × Int → Option (Int × Int × (List (Int × List UInt8)) × (List (Int × List UInt8)) × (List (Int × Int × Int × (List UInt8) × Int)) × Int × Int)) (w_nak_Skips : (Int × Int × (List (Int × List UInt8)) × (List (Int × List UInt8)) × (List (Int × Int × Int × (List UInt8) × Int)) × Int × Int) × Int × Int → Option ((List (Int × Int)) × Int × Int × (List (Int × List UInt8)) × (List (Int × List UInt8)) × (List (Int × Int × Int × (List UInt8) × Int)) × Int × Int)) (w_nak_Goes : Int × Int × (List (Int × List UInt8)) × (List (Int × List UInt8)) × (List (Int × Int × Int × (List UInt8) × Int)) × Int × Int → Option ((List (Int × List UInt8)) × Int × Int × (List (Int × List UInt8)) × (List (Int × List UInt8)) × (List (Int × Int × Int × (List UInt8) × Int)) × Int × Int)) (N : Nat) (x : (Int × Int × (List (Int × List UInt8)) × (List (Int × List UInt8)) × (List (Int × Int × Int × (List UInt8) × Int)) × Int × Int) × Int × Int) : Option (Int × Int × (List (Int × List UInt8)) × (List (Int × List UInt8)) × (List (Int × Int × Int × (List UInt8) × Int)) × Int × Int) :=
  obind (w_feed_read x.1) fun b => selim (fun (b : Int) => obind (cnd (decide (x.2.1 < (1:Int))) (some (true, x.1, ((0:Int), (0:Int), [], [], [],
    (0:Int), (0:Int)), b)) (some (decide (x.2.2 < x.2.1), x.1, ((0:Int), (0:Int), [], [], [], (0:Int), (0:Int)), b))) fun (b : Bool × (Int × Int × List
    (Int × List UInt8) × List (Int × List UInt8) × List (Int × Int × Int × List UInt8 × Int) × Int × Int) × (Int × Int × List (Int × List UInt8) × List
    (Int × List UInt8) × List (Int × Int × Int × List UInt8 × Int) × Int × Int) × Int) => cnd b.1 (obind (w_twin_Feed b.2.1) fun b => some b) (cnd
    (decide ((1000000:Int) < x.2.2)) (obind (w_twin_Feed b.2.1) fun b => some b) (obind (w_feed_Knows (b.2.1, x.2.2)) fun b_1 => cnd (decide
    (b.2.2.2 < x.2.1)) (some b_1) (cnd (decide (x.2.2 < b.2.2.2)) (some b_1) (obind (w_nak_Skips (b_1, x.2.2, (1:Int))) fun b => obind (w_nak_Goes
    b.2) fun b => some b.2))))) (fun (c : PUnit) => obind (cnd true (some (true, x.1, ((0:Int), (0:Int), [], [], [], (0:Int), (0:Int)), (0:Int))) (some
    (decide (x.2.2 < x.2.1), x.1, ((0:Int), (0:Int), [], [], [], (0:Int), (0:Int)), (0:Int)))) fun (b : Bool × (Int × Int × List (Int × List UInt8) ×
    List (Int × List UInt8) × List (Int × Int × Int × List UInt8 × Int) × Int × Int) × (Int × Int × List (Int × List UInt8) × List (Int × List UInt8) ×
    List (Int × Int × Int × List UInt8 × Int) × Int × Int) × Int) => cnd b.1 (obind (w_twin_Feed b.2.1) fun b => some b) (cnd (decide ((1000000:Int) <
    x.2.2)) (obind (w_twin_Feed b.2.1) fun b => some b) (obind (w_feed_Knows (b.2.1, x.2.2)) fun b_1 => cnd (decide (b.2.2.2 < x.2.1)) (some b_1)
    (cnd (decide (x.2.2 < b.2.2.2)) (some b_1) (obind (w_nak_Skips (b_1, x.2.2, (1:Int))) fun b => obind (w_nak_Goes b.2) fun b => some b.2))))) b
theorem q_feed_Notes : ∀ w_feed_read w_twin_Feed w_feed_Knows w_nak_Skips w_nak_Goes N x, u_feed_Notes.F L0 P0 (orcOf [u_feed_read.con w_feed_read, u_twin_Feed.con w_twin_Feed, u_feed_Knows.con w_feed_Knows, u_nak_Skips.con w_nak_Skips, u_nak_Goes.con w_nak_Goes]) N x = V_feed_Notes w_feed_read w_twin_Feed w_feed_Knows w_nak_Skips w_nak_Goes N x := by intros; kernel_rfl
noncomputable def W_feed_Notes (N : Nat) := V_feed_Notes (W_feed_read N) (W_twin_Feed N) (W_feed_Knows N) (W_nak_Skips N) (W_nak_Goes N) N
theorem con_feed_Notes_ok (N : Nat) : (u_feed_Notes.con (W_feed_Notes N)).ok P0 := Uf.ok mixed (q_feed_Notes (W_feed_read N) (W_twin_Feed N) (W_feed_Knows N) (W_nak_Skips N) (W_nak_Goes N) N) ⟨con_feed_read_ok N, con_twin_Feed_ok N, con_feed_Knows_ok N, con_nak_Skips_ok N, con_nak_Goes_ok N, trivial⟩ Try.func10 (by kernel_rfl) fun x y => by kernel_rfl
noncomputable def u_feed_Since : Uf := ⟨11, 19, Try.f11, [.val (.agg (.pair (.int .i64) (.pair (.int .i64) (.pair (.list (.agg (.pair (.int .i64) .str))) (.pair (.list (.agg (.pair (.int .i64) .str))) (.pair (.list (.agg (.pair (.int .i64) (.pair (.int .i64) (.pair (.int .i64) (.pair .str (.int .i64))))))) (.agg (.pair (.int .i64) (.int .i64))))))))), .val (.agg (.pair (.int .i64) (.pair (.int .i64) (.pair (.list (.agg (.pair (.int .i64) .str))) (.pair (.list (.agg (.pair (.int .i64) .str))) (.pair (.list (.agg (.pair (.int .i64) (.pair (.int .i64) (.pair (.int .i64) (.pair .str (.int .i64))))))) (.agg (.pair (.int .i64) (.int .i64)))))))))], [],
⟨[(4, .val (.list (.agg (.pair (.int .i64) (.pair (.int .i64) (.pair (.int .i64) (.pair .str (.int .i64))))))))], []⟩, [],
[],
[], fun y => (valW (.list (.agg (.pair (.int .i64) (.pair (.int .i64) (.pair (.int .i64) (.pair .str (.int .i64))))))) y, [], [])⟩
noncomputable def V_feed_Since (w_slices_Clone_api_Event : List (Int × Int × Int × (List UInt8) × Int) → Option (List (Int × Int × Int × (List UInt8) × Int))) (N : Nat) (x : (Int × Int × (List (Int × List UInt8)) × (List (Int × List UInt8)) × (List (Int × Int × Int × (List UInt8) × Int)) × Int × Int) × Int × Int × (List (Int × List UInt8)) × (List (Int × List UInt8)) × (List (Int × Int × Int × (List UInt8) × Int)) × Int × Int) : Option (List (Int × Int × Int × (List UInt8) × Int)) :=
  cnd (decide ((↑(List.length x.1.2.2.2.2.1) : Int) ≤ (↑(List.length x.2.2.2.2.2.1) : Int))) (some []) (cnd (decide ((0:Int) ≤ (↑(List.length
    x.2.2.2.2.2.1) : Int)) && decide ((↑(List.length x.2.2.2.2.2.1) : Int) ≤ (↑(List.length x.1.2.2.2.2.1) : Int))) (obind (w_slices_Clone_api_Event
    (List.drop (Int.toNat (↑(List.length x.2.2.2.2.2.1) : Int)) (List.take (List.length x.1.2.2.2.2.1) x.1.2.2.2.2.1))) fun b => some b) none)
theorem q_feed_Since : ∀ w_slices_Clone_api_Event N x, u_feed_Since.F L0 P0 (orcOf [conw_slices_Clone_api_Event w_slices_Clone_api_Event]) N x = V_feed_Since w_slices_Clone_api_Event N x := by intros; kernel_rfl
noncomputable def W_feed_Since (N : Nat) := V_feed_Since (W_slices_Clone_api_Event N) N
theorem con_feed_Since_ok (N : Nat) : (u_feed_Since.con (W_feed_Since N)).ok P0 := Uf.ok mixed (q_feed_Since (W_slices_Clone_api_Event N) N) ⟨con_slices_Clone_api_Event_ok N, trivial⟩ Try.func11 (by kernel_rfl) fun x y => by kernel_rfl
noncomputable def u_law18_begun : Uf := ⟨4, 89, Try.f4, [], [],
⟨[(0, .val .bool)], []⟩, [],
[],
[(1000006, .reg [(9, [], ⟨[(1, .ptr 600001 0), (2, .ptr 600002 0), (3, .ptr 600003 0), (4, .ptr 600004 0), (6, .ptr 600006 0), (8, .ptr 600008 0), (37, .val .bool)], [(600001, .box 29 (.val (.pair (.int .i64) (.pair (.int .i64) (.pair (.list (.agg (.pair (.int .i64) .str))) (.pair (.list (.agg (.pair (.int .i64) .str))) (.pair (.list (.agg (.pair (.int .i64) (.pair (.int .i64) (.pair (.int .i64) (.pair .str (.int .i64))))))) (.agg (.pair (.int .i64) (.int .i64)))))))))), (600002, .box 29 (.val (.pair (.int .i64) (.pair (.int .i64) (.pair (.list (.agg (.pair (.int .i64) .str))) (.pair (.list (.agg (.pair (.int .i64) .str))) (.pair (.list (.agg (.pair (.int .i64) (.pair (.int .i64) (.pair (.int .i64) (.pair .str (.int .i64))))))) (.agg (.pair (.int .i64) (.int .i64)))))))))), (600003, .box 29 (.val (.pair (.int .i64) (.pair (.int .i64) (.pair (.list (.agg (.pair (.int .i64) .str))) (.pair (.list (.agg (.pair (.int .i64) .str))) (.pair (.list (.agg (.pair (.int .i64) (.pair (.int .i64) (.pair (.int .i64) (.pair .str (.int .i64))))))) (.agg (.pair (.int .i64) (.int .i64)))))))))), (600004, .box 45 (.val (.pair (.int .i64) (.int .i64)))), (600006, .box 29 (.val (.pair (.int .i64) (.pair (.int .i64) (.pair (.list (.agg (.pair (.int .i64) .str))) (.pair (.list (.agg (.pair (.int .i64) .str))) (.pair (.list (.agg (.pair (.int .i64) (.pair (.int .i64) (.pair (.int .i64) (.pair .str (.int .i64))))))) (.agg (.pair (.int .i64) (.int .i64)))))))))), (600008, .box 29 (.val (.pair (.int .i64) (.pair (.int .i64) (.pair (.list (.agg (.pair (.int .i64) .str))) (.pair (.list (.agg (.pair (.int .i64) .str))) (.pair (.list (.agg (.pair (.int .i64) (.pair (.int .i64) (.pair (.int .i64) (.pair .str (.int .i64))))))) (.agg (.pair (.int .i64) (.int .i64))))))))))]⟩), (5, [], ⟨[(1, .ptr 600001 0), (2, .ptr 600002 0), (3, .ptr 600003 0), (4, .ptr 600004 0), (6, .ptr 600006 0), (8, .ptr 600008 0), (42, .val .bool)], [(600001, .box 29 (.val (.pair (.int .i64) (.pair (.int .i64) (.pair (.list (.agg (.pair (.int .i64) .str))) (.pair (.list (.agg (.pair (.int .i64) .str))) (.pair (.list (.agg (.pair (.int .i64) (.pair (.int .i64) (.pair (.int .i64) (.pair .str (.int .i64))))))) (.agg (.pair (.int .i64) (.int .i64)))))))))), (600002, .box 29 (.val (.pair (.int .i64) (.pair (.int .i64) (.pair (.list (.agg (.pair (.int .i64) .str))) (.pair (.list (.agg (.pair (.int .i64) .str))) (.pair (.list (.agg (.pair (.int .i64) (.pair (.int .i64) (.pair (.int .i64) (.pair .str (.int .i64))))))) (.agg (.pair (.int .i64) (.int .i64)))))))))), (600003, .box 29 (.val (.pair (.int .i64) (.pair (.int .i64) (.pair (.list (.agg (.pair (.int .i64) .str))) (.pair (.list (.agg (.pair (.int .i64) .str))) (.pair (.list (.agg (.pair (.int .i64) (.pair (.int .i64) (.pair (.int .i64) (.pair .str (.int .i64))))))) (.agg (.pair (.int .i64) (.int .i64)))))))))), (600004, .box 45 (.val (.pair (.int .i64) (.int .i64)))), (600006, .box 29 (.val (.pair (.int .i64) (.pair (.int .i64) (.pair (.list (.agg (.pair (.int .i64) .str))) (.pair (.list (.agg (.pair (.int .i64) .str))) (.pair (.list (.agg (.pair (.int .i64) (.pair (.int .i64) (.pair (.int .i64) (.pair .str (.int .i64))))))) (.agg (.pair (.int .i64) (.int .i64)))))))))), (600008, .box 29 (.val (.pair (.int .i64) (.pair (.int .i64) (.pair (.list (.agg (.pair (.int .i64) .str))) (.pair (.list (.agg (.pair (.int .i64) .str))) (.pair (.list (.agg (.pair (.int .i64) (.pair (.int .i64) (.pair (.int .i64) (.pair .str (.int .i64))))))) (.agg (.pair (.int .i64) (.int .i64))))))))))]⟩), (6, [], ⟨[(1, .ptr 600001 0), (2, .ptr 600002 0), (3, .ptr 600003 0), (4, .ptr 600004 0), (6, .ptr 600006 0), (8, .ptr 600008 0), (48, .val .bool)], [(600001, .box 29 (.val (.pair (.int .i64) (.pair (.int .i64) (.pair (.list (.agg (.pair (.int .i64) .str))) (.pair (.list (.agg (.pair (.int .i64) .str))) (.pair (.list (.agg (.pair (.int .i64) (.pair (.int .i64) (.pair (.int .i64) (.pair .str (.int .i64))))))) (.agg (.pair (.int .i64) (.int .i64)))))))))), (600002, .box 29 (.val (.pair (.int .i64) (.pair (.int .i64) (.pair (.list (.agg (.pair (.int .i64) .str))) (.pair (.list (.agg (.pair (.int .i64) .str))) (.pair (.list (.agg (.pair (.int .i64) (.pair (.int .i64) (.pair (.int .i64) (.pair .str (.int .i64))))))) (.agg (.pair (.int .i64) (.int .i64)))))))))), (600003, .box 29 (.val (.pair (.int .i64) (.pair (.int .i64) (.pair (.list (.agg (.pair (.int .i64) .str))) (.pair (.list (.agg (.pair (.int .i64) .str))) (.pair (.list (.agg (.pair (.int .i64) (.pair (.int .i64) (.pair (.int .i64) (.pair .str (.int .i64))))))) (.agg (.pair (.int .i64) (.int .i64)))))))))), (600004, .box 45 (.val (.pair (.int .i64) (.int .i64)))), (600006, .box 29 (.val (.pair (.int .i64) (.pair (.int .i64) (.pair (.list (.agg (.pair (.int .i64) .str))) (.pair (.list (.agg (.pair (.int .i64) .str))) (.pair (.list (.agg (.pair (.int .i64) (.pair (.int .i64) (.pair (.int .i64) (.pair .str (.int .i64))))))) (.agg (.pair (.int .i64) (.int .i64)))))))))), (600008, .box 29 (.val (.pair (.int .i64) (.pair (.int .i64) (.pair (.list (.agg (.pair (.int .i64) .str))) (.pair (.list (.agg (.pair (.int .i64) .str))) (.pair (.list (.agg (.pair (.int .i64) (.pair (.int .i64) (.pair (.int .i64) (.pair .str (.int .i64))))))) (.agg (.pair (.int .i64) (.int .i64))))))))))]⟩), (3, [], ⟨[(1, .ptr 600001 0), (2, .ptr 600002 0), (3, .ptr 600003 0), (4, .ptr 600004 0), (6, .ptr 600006 0), (8, .ptr 600008 0), (51, .val .bool)], [(600001, .box 29 (.val (.pair (.int .i64) (.pair (.int .i64) (.pair (.list (.agg (.pair (.int .i64) .str))) (.pair (.list (.agg (.pair (.int .i64) .str))) (.pair (.list (.agg (.pair (.int .i64) (.pair (.int .i64) (.pair (.int .i64) (.pair .str (.int .i64))))))) (.agg (.pair (.int .i64) (.int .i64)))))))))), (600002, .box 29 (.val (.pair (.int .i64) (.pair (.int .i64) (.pair (.list (.agg (.pair (.int .i64) .str))) (.pair (.list (.agg (.pair (.int .i64) .str))) (.pair (.list (.agg (.pair (.int .i64) (.pair (.int .i64) (.pair (.int .i64) (.pair .str (.int .i64))))))) (.agg (.pair (.int .i64) (.int .i64)))))))))), (600003, .box 29 (.val (.pair (.int .i64) (.pair (.int .i64) (.pair (.list (.agg (.pair (.int .i64) .str))) (.pair (.list (.agg (.pair (.int .i64) .str))) (.pair (.list (.agg (.pair (.int .i64) (.pair (.int .i64) (.pair (.int .i64) (.pair .str (.int .i64))))))) (.agg (.pair (.int .i64) (.int .i64)))))))))), (600004, .box 45 (.val (.pair (.int .i64) (.int .i64)))), (600006, .box 29 (.val (.pair (.int .i64) (.pair (.int .i64) (.pair (.list (.agg (.pair (.int .i64) .str))) (.pair (.list (.agg (.pair (.int .i64) .str))) (.pair (.list (.agg (.pair (.int .i64) (.pair (.int .i64) (.pair (.int .i64) (.pair .str (.int .i64))))))) (.agg (.pair (.int .i64) (.int .i64)))))))))), (600008, .box 29 (.val (.pair (.int .i64) (.pair (.int .i64) (.pair (.list (.agg (.pair (.int .i64) .str))) (.pair (.list (.agg (.pair (.int .i64) .str))) (.pair (.list (.agg (.pair (.int .i64) (.pair (.int .i64) (.pair (.int .i64) (.pair .str (.int .i64))))))) (.agg (.pair (.int .i64) (.int .i64))))))))))]⟩), (5, [], ⟨[(1, .ptr 600001 0), (2, .ptr 600002 0), (3, .ptr 600003 0), (6, .ptr 600006 0), (8, .ptr 600008 0), (56, .val .bool)], [(600001, .box 29 (.val (.pair (.int .i64) (.pair (.int .i64) (.pair (.list (.agg (.pair (.int .i64) .str))) (.pair (.list (.agg (.pair (.int .i64) .str))) (.pair (.list (.agg (.pair (.int .i64) (.pair (.int .i64) (.pair (.int .i64) (.pair .str (.int .i64))))))) (.agg (.pair (.int .i64) (.int .i64)))))))))), (600002, .box 29 (.val (.pair (.int .i64) (.pair (.int .i64) (.pair (.list (.agg (.pair (.int .i64) .str))) (.pair (.list (.agg (.pair (.int .i64) .str))) (.pair (.list (.agg (.pair (.int .i64) (.pair (.int .i64) (.pair (.int .i64) (.pair .str (.int .i64))))))) (.agg (.pair (.int .i64) (.int .i64)))))))))), (600003, .box 29 (.val (.pair (.int .i64) (.pair (.int .i64) (.pair (.list (.agg (.pair (.int .i64) .str))) (.pair (.list (.agg (.pair (.int .i64) .str))) (.pair (.list (.agg (.pair (.int .i64) (.pair (.int .i64) (.pair (.int .i64) (.pair .str (.int .i64))))))) (.agg (.pair (.int .i64) (.int .i64)))))))))), (600006, .box 29 (.val (.pair (.int .i64) (.pair (.int .i64) (.pair (.list (.agg (.pair (.int .i64) .str))) (.pair (.list (.agg (.pair (.int .i64) .str))) (.pair (.list (.agg (.pair (.int .i64) (.pair (.int .i64) (.pair (.int .i64) (.pair .str (.int .i64))))))) (.agg (.pair (.int .i64) (.int .i64)))))))))), (600008, .box 29 (.val (.pair (.int .i64) (.pair (.int .i64) (.pair (.list (.agg (.pair (.int .i64) .str))) (.pair (.list (.agg (.pair (.int .i64) .str))) (.pair (.list (.agg (.pair (.int .i64) (.pair (.int .i64) (.pair (.int .i64) (.pair .str (.int .i64))))))) (.agg (.pair (.int .i64) (.int .i64))))))))))]⟩), (6, [], ⟨[(1, .ptr 600001 0), (2, .ptr 600002 0), (6, .ptr 600006 0), (8, .ptr 600008 0), (62, .val .bool)], [(600001, .box 29 (.val (.pair (.int .i64) (.pair (.int .i64) (.pair (.list (.agg (.pair (.int .i64) .str))) (.pair (.list (.agg (.pair (.int .i64) .str))) (.pair (.list (.agg (.pair (.int .i64) (.pair (.int .i64) (.pair (.int .i64) (.pair .str (.int .i64))))))) (.agg (.pair (.int .i64) (.int .i64)))))))))), (600002, .box 29 (.val (.pair (.int .i64) (.pair (.int .i64) (.pair (.list (.agg (.pair (.int .i64) .str))) (.pair (.list (.agg (.pair (.int .i64) .str))) (.pair (.list (.agg (.pair (.int .i64) (.pair (.int .i64) (.pair (.int .i64) (.pair .str (.int .i64))))))) (.agg (.pair (.int .i64) (.int .i64)))))))))), (600006, .box 29 (.val (.pair (.int .i64) (.pair (.int .i64) (.pair (.list (.agg (.pair (.int .i64) .str))) (.pair (.list (.agg (.pair (.int .i64) .str))) (.pair (.list (.agg (.pair (.int .i64) (.pair (.int .i64) (.pair (.int .i64) (.pair .str (.int .i64))))))) (.agg (.pair (.int .i64) (.int .i64)))))))))), (600008, .box 29 (.val (.pair (.int .i64) (.pair (.int .i64) (.pair (.list (.agg (.pair (.int .i64) .str))) (.pair (.list (.agg (.pair (.int .i64) .str))) (.pair (.list (.agg (.pair (.int .i64) (.pair (.int .i64) (.pair (.int .i64) (.pair .str (.int .i64))))))) (.agg (.pair (.int .i64) (.int .i64))))))))))]⟩), (3, [], ⟨[(1, .ptr 600001 0), (2, .ptr 600002 0), (6, .ptr 600006 0), (8, .ptr 600008 0), (65, .val .bool)], [(600001, .box 29 (.val (.pair (.int .i64) (.pair (.int .i64) (.pair (.list (.agg (.pair (.int .i64) .str))) (.pair (.list (.agg (.pair (.int .i64) .str))) (.pair (.list (.agg (.pair (.int .i64) (.pair (.int .i64) (.pair (.int .i64) (.pair .str (.int .i64))))))) (.agg (.pair (.int .i64) (.int .i64)))))))))), (600002, .box 29 (.val (.pair (.int .i64) (.pair (.int .i64) (.pair (.list (.agg (.pair (.int .i64) .str))) (.pair (.list (.agg (.pair (.int .i64) .str))) (.pair (.list (.agg (.pair (.int .i64) (.pair (.int .i64) (.pair (.int .i64) (.pair .str (.int .i64))))))) (.agg (.pair (.int .i64) (.int .i64)))))))))), (600006, .box 29 (.val (.pair (.int .i64) (.pair (.int .i64) (.pair (.list (.agg (.pair (.int .i64) .str))) (.pair (.list (.agg (.pair (.int .i64) .str))) (.pair (.list (.agg (.pair (.int .i64) (.pair (.int .i64) (.pair (.int .i64) (.pair .str (.int .i64))))))) (.agg (.pair (.int .i64) (.int .i64)))))))))), (600008, .box 29 (.val (.pair (.int .i64) (.pair (.int .i64) (.pair (.list (.agg (.pair (.int .i64) .str))) (.pair (.list (.agg (.pair (.int .i64) .str))) (.pair (.list (.agg (.pair (.int .i64) (.pair (.int .i64) (.pair (.int .i64) (.pair .str (.int .i64))))))) (.agg (.pair (.int .i64) (.int .i64))))))))))]⟩), (5, [], ⟨[(1, .ptr 600001 0), (2, .ptr 600002 0), (8, .ptr 600008 0), (70, .val .bool)], [(600001, .box 29 (.val (.pair (.int .i64) (.pair (.int .i64) (.pair (.list (.agg (.pair (.int .i64) .str))) (.pair (.list (.agg (.pair (.int .i64) .str))) (.pair (.list (.agg (.pair (.int .i64) (.pair (.int .i64) (.pair (.int .i64) (.pair .str (.int .i64))))))) (.agg (.pair (.int .i64) (.int .i64)))))))))), (600002, .box 29 (.val (.pair (.int .i64) (.pair (.int .i64) (.pair (.list (.agg (.pair (.int .i64) .str))) (.pair (.list (.agg (.pair (.int .i64) .str))) (.pair (.list (.agg (.pair (.int .i64) (.pair (.int .i64) (.pair (.int .i64) (.pair .str (.int .i64))))))) (.agg (.pair (.int .i64) (.int .i64)))))))))), (600008, .box 29 (.val (.pair (.int .i64) (.pair (.int .i64) (.pair (.list (.agg (.pair (.int .i64) .str))) (.pair (.list (.agg (.pair (.int .i64) .str))) (.pair (.list (.agg (.pair (.int .i64) (.pair (.int .i64) (.pair (.int .i64) (.pair .str (.int .i64))))))) (.agg (.pair (.int .i64) (.int .i64))))))))))]⟩), (5, [], ⟨[(1, .ptr 600001 0), (2, .ptr 600002 0), (8, .ptr 600008 0), (75, .val .bool)], [(600001, .box 29 (.val (.pair (.int .i64) (.pair (.int .i64) (.pair (.list (.agg (.pair (.int .i64) .str))) (.pair (.list (.agg (.pair (.int .i64) .str))) (.pair (.list (.agg (.pair (.int .i64) (.pair (.int .i64) (.pair (.int .i64) (.pair .str (.int .i64))))))) (.agg (.pair (.int .i64) (.int .i64)))))))))), (600002, .box 29 (.val (.pair (.int .i64) (.pair (.int .i64) (.pair (.list (.agg (.pair (.int .i64) .str))) (.pair (.list (.agg (.pair (.int .i64) .str))) (.pair (.list (.agg (.pair (.int .i64) (.pair (.int .i64) (.pair (.int .i64) (.pair .str (.int .i64))))))) (.agg (.pair (.int .i64) (.int .i64)))))))))), (600008, .box 29 (.val (.pair (.int .i64) (.pair (.int .i64) (.pair (.list (.agg (.pair (.int .i64) .str))) (.pair (.list (.agg (.pair (.int .i64) .str))) (.pair (.list (.agg (.pair (.int .i64) (.pair (.int .i64) (.pair (.int .i64) (.pair .str (.int .i64))))))) (.agg (.pair (.int .i64) (.int .i64))))))))))]⟩), (7, [], ⟨[(1, .ptr 600001 0), (82, .val .bool)], [(600001, .box 29 (.val (.pair (.int .i64) (.pair (.int .i64) (.pair (.list (.agg (.pair (.int .i64) .str))) (.pair (.list (.agg (.pair (.int .i64) .str))) (.pair (.list (.agg (.pair (.int .i64) (.pair (.int .i64) (.pair (.int .i64) (.pair .str (.int .i64))))))) (.agg (.pair (.int .i64) (.int .i64))))))))))]⟩)])], fun y => (valW .bool y, [], [])⟩
noncomputable def V_law18_begun (w_feed_Begin : (Int × Int × (List (Int × List UInt8)) × (List (Int × List UInt8)) × (List (Int × Int × Int × (List UInt8) × Int)) × Int × Int) × Int → Option (Int × Int × (List (Int × List UInt8)) × (List (Int × List UInt8)) × (List (Int × Int × Int × (List UInt8) × Int)) × Int × Int)) (w_feed_Comes : (Int × Int × (List (Int × List UInt8)) × (List (Int × List UInt8)) × (List (Int × Int × Int × (List UInt8) × Int)) × Int × Int) × Int × List UInt8 → Option (Int × Int × (List (Int × List UInt8)) × (List (Int × List UInt8)) × (List (Int × Int × Int × (List UInt8) × Int)) × Int × Int)) (w_feed_Tick : (Int × Int × (List (Int × List UInt8)) × (List (Int × List UInt8)) × (List (Int × Int × Int × (List UInt8) × Int)) × Int × Int) × Int → Option (Bool × (Int × Int × (List (Int × List UInt8)) × (List (Int × List UInt8)) × (List (Int × Int × Int × (List UInt8) × Int)) × Int × Int) × Int × Int)) (w_feed_Say : (Int × Int × (List (Int × List UInt8)) × (List (Int × List UInt8)) × (List (Int × Int × Int × (List UInt8) × Int)) × Int × Int) × List UInt8 → Option (Bool × Int × Int × (List (Int × List UInt8)) × (List (Int × List UInt8)) × (List (Int × Int × Int × (List UInt8) × Int)) × Int × Int)) (w_feed_Notes : (Int × Int × (List (Int × List UInt8)) × (List (Int × List UInt8)) × (List (Int × Int × Int × (List UInt8) × Int)) × Int × Int) × Int × Int → Option (Int × Int × (List (Int × List UInt8)) × (List (Int × List UInt8)) × (List (Int × Int × Int × (List UInt8) × Int)) × Int × Int)) (w_feed_Since : (Int × Int × (List (Int × List UInt8)) × (List (Int × List UInt8)) × (List (Int × Int × Int × (List UInt8) × Int)) × Int × Int) × Int × Int × (List (Int × List UInt8)) × (List (Int × List UInt8)) × (List (Int × Int × Int × (List UInt8) × Int)) × Int × Int → Option (List (Int × Int × Int × (List UInt8) × Int))) (w_feed_Knows : (Int × Int × (List (Int × List UInt8)) × (List (Int × List UInt8)) × (List (Int × Int × Int × (List UInt8) × Int)) × Int × Int) × Int → Option (Int × Int × (List (Int × List UInt8)) × (List (Int × List UInt8)) × (List (Int × Int × Int × (List UInt8) × Int)) × Int × Int)) (N : Nat) (x : Unit) : Option (Bool) :=
  obind (w_feed_Begin (((0:Int), (0:Int), [], [], [], (0:Int), (0:Int)), (3:Int))) fun b => obind (w_feed_Comes (b, (3:Int), [(97 : UInt8)])) fun b
    => obind (w_feed_Comes (b, (6:Int), [(100 : UInt8)])) fun b_1 => obind (w_feed_Tick (b_1, (5:Int))) fun b_2 => obind (w_feed_Say (((0:Int),
    (0:Int), [], [], [], (0:Int), (0:Int)), [(120 : UInt8)])) fun b_3 => obind (w_feed_Notes (b_1, (4:Int), (5:Int))) fun b_4 => obind (cnd (decide
    (b.1 = (4:Int))) (some (decide ((↑(List.length b.2.2.2.2.1) : Int) = (1:Int)), b, b_1, b_2.2.1, b_2.2.2, b_3.2, b_4)) (some (false, b, b_1, b_2.2.1,
    b_2.2.2, b_3.2, b_4))) fun (b : Bool × (Int × Int × List (Int × List UInt8) × List (Int × List UInt8) × List (Int × Int × Int × List UInt8 × Int) ×
    Int × Int) × (Int × Int × List (Int × List UInt8) × List (Int × List UInt8) × List (Int × Int × Int × List UInt8 × Int) × Int × Int) × (Int × Int ×
    List (Int × List UInt8) × List (Int × List UInt8) × List (Int × Int × Int × List UInt8 × Int) × Int × Int) × (Int × Int) × (Int × Int × List (Int ×
    List UInt8) × List (Int × List UInt8) × List (Int × Int × Int × List UInt8 × Int) × Int × Int) × Int × Int × List (Int × List UInt8) × List (Int ×
    List UInt8) × List (Int × Int × Int × List UInt8 × Int) × Int × Int) => obind (cnd b.1 (some (decide (b.2.2.1.2.1 = (6:Int)), b.2)) (some (false,
    b.2))) fun (b : Bool × (Int × Int × List (Int × List UInt8) × List (Int × List UInt8) × List (Int × Int × Int × List UInt8 × Int) × Int × Int) ×
    (Int × Int × List (Int × List UInt8) × List (Int × List UInt8) × List (Int × Int × Int × List UInt8 × Int) × Int × Int) × (Int × Int × List (Int ×
    List UInt8) × List (Int × List UInt8) × List (Int × Int × Int × List UInt8 × Int) × Int × Int) × (Int × Int) × (Int × Int × List (Int × List UInt8)
    × List (Int × List UInt8) × List (Int × Int × Int × List UInt8 × Int) × Int × Int) × Int × Int × List (Int × List UInt8) × List (Int × List UInt8) ×
    List (Int × Int × Int × List UInt8 × Int) × Int × Int) => obind (cnd b.1 (some (decide ((↑(List.length b.2.2.1.2.2.2.1) : Int) = (1:Int)), b.2))
    (some (false, b.2))) fun (b : Bool × (Int × Int × List (Int × List UInt8) × List (Int × List UInt8) × List (Int × Int × Int × List UInt8 × Int) ×
    Int × Int) × (Int × Int × List (Int × List UInt8) × List (Int × List UInt8) × List (Int × Int × Int × List UInt8 × Int) × Int × Int) × (Int × Int ×
    List (Int × List UInt8) × List (Int × List UInt8) × List (Int × Int × Int × List UInt8 × Int) × Int × Int) × (Int × Int) × (Int × Int × List (Int ×
    List UInt8) × List (Int × List UInt8) × List (Int × Int × Int × List UInt8 × Int) × Int × Int) × Int × Int × List (Int × List UInt8) × List (Int ×
    List UInt8) × List (Int × Int × Int × List UInt8 × Int) × Int × Int) => obind (cnd b.1 (some (b_2.1, b.2)) (some (false, b.2))) fun (b : Bool × (Int
    × Int × List (Int × List UInt8) × List (Int × List UInt8) × List (Int × Int × Int × List UInt8 × Int) × Int × Int) × (Int × Int × List (Int × List
    UInt8) × List (Int × List UInt8) × List (Int × Int × Int × List UInt8 × Int) × Int × Int) × (Int × Int × List (Int × List UInt8) × List (Int × List
    UInt8) × List (Int × Int × Int × List UInt8 × Int) × Int × Int) × (Int × Int) × (Int × Int × List (Int × List UInt8) × List (Int × List UInt8) ×
    List (Int × Int × Int × List UInt8 × Int) × Int × Int) × Int × Int × List (Int × List UInt8) × List (Int × List UInt8) × List (Int × Int × Int ×
    List UInt8 × Int) × Int × Int) => obind (cnd b.1 (some (decide (b.2.2.2.2.1.1 = (4:Int)) && decide (b.2.2.2.2.1.2 = (5:Int)), b.2.1, b.2.2.1,
    b.2.2.2.1, b.2.2.2.2.2)) (some (false, b.2.1, b.2.2.1, b.2.2.2.1, b.2.2.2.2.2))) fun (b : Bool × (Int × Int × List (Int × List UInt8) × List (Int ×
    List UInt8) × List (Int × Int × Int × List UInt8 × Int) × Int × Int) × (Int × Int × List (Int × List UInt8) × List (Int × List UInt8) × List (Int ×
    Int × Int × List UInt8 × Int) × Int × Int) × (Int × Int × List (Int × List UInt8) × List (Int × List UInt8) × List (Int × Int × Int × List UInt8 ×
    Int) × Int × Int) × (Int × Int × List (Int × List UInt8) × List (Int × List UInt8) × List (Int × Int × Int × List UInt8 × Int) × Int × Int) × Int ×
    Int × List (Int × List UInt8) × List (Int × List UInt8) × List (Int × Int × Int × List UInt8 × Int) × Int × Int) => obind (cnd b.1 (some (decide
    (b.2.2.2.1.2.2.2.2.2.1 = (1:Int)) && decide (b.2.2.2.1.2.2.2.2.2.2 = (7:Int)), b.2.1, b.2.2.1, b.2.2.2.2)) (some (false, b.2.1, b.2.2.1,
    b.2.2.2.2))) fun (b : Bool × (Int × Int × List (Int × List UInt8) × List (Int × List UInt8) × List (Int × Int × Int × List UInt8 × Int) × Int × Int)
    × (Int × Int × List (Int × List UInt8) × List (Int × List UInt8) × List (Int × Int × Int × List UInt8 × Int) × Int × Int) × (Int × Int × List (Int ×
    List UInt8) × List (Int × List UInt8) × List (Int × Int × Int × List UInt8 × Int) × Int × Int) × Int × Int × List (Int × List UInt8) × List (Int ×
    List UInt8) × List (Int × Int × Int × List UInt8 × Int) × Int × Int) => obind (cnd b.1 (some (b_3.1, b.2)) (some (false, b.2))) fun (b : Bool × (Int
    × Int × List (Int × List UInt8) × List (Int × List UInt8) × List (Int × Int × Int × List UInt8 × Int) × Int × Int) × (Int × Int × List (Int × List
    UInt8) × List (Int × List UInt8) × List (Int × Int × Int × List UInt8 × Int) × Int × Int) × (Int × Int × List (Int × List UInt8) × List (Int × List
    UInt8) × List (Int × Int × Int × List UInt8 × Int) × Int × Int) × Int × Int × List (Int × List UInt8) × List (Int × List UInt8) × List (Int × Int ×
    Int × List UInt8 × Int) × Int × Int) => obind (cnd b.1 (some (decide (b.2.2.2.1.1 = (2:Int)), b.2.1, b.2.2.1, b.2.2.2.2)) (some (false, b.2.1,
    b.2.2.1, b.2.2.2.2))) fun (b : Bool × (Int × Int × List (Int × List UInt8) × List (Int × List UInt8) × List (Int × Int × Int × List UInt8 × Int) ×
    Int × Int) × (Int × Int × List (Int × List UInt8) × List (Int × List UInt8) × List (Int × Int × Int × List UInt8 × Int) × Int × Int) × Int × Int ×
    List (Int × List UInt8) × List (Int × List UInt8) × List (Int × Int × Int × List UInt8 × Int) × Int × Int) => obind (cnd b.1 (some (decide
    (b.2.2.2.1 = (7:Int)), b.2)) (some (false, b.2))) fun (b : Bool × (Int × Int × List (Int × List UInt8) × List (Int × List UInt8) × List (Int × Int ×
    Int × List UInt8 × Int) × Int × Int) × (Int × Int × List (Int × List UInt8) × List (Int × List UInt8) × List (Int × Int × Int × List UInt8 × Int) ×
    Int × Int) × Int × Int × List (Int × List UInt8) × List (Int × List UInt8) × List (Int × Int × Int × List UInt8 × Int) × Int × Int) => obind (cnd
    b.1 (obind (w_feed_Since (b.2.2.2, b.2.2.1)) fun b_5 => some (decide ((↑(List.length b_5) : Int) = (2:Int)), b.2.1)) (some (false, b.2.1))) fun (b
    : Bool × Int × Int × List (Int × List UInt8) × List (Int × List UInt8) × List (Int × Int × Int × List UInt8 × Int) × Int × Int) => cnd b.1 (obind
    (w_feed_Knows (b.2, (9:Int))) fun b => some (decide (b.2.1 = (9:Int)))) (some false)
theorem q_law18_begun : ∀ w_feed_Begin w_feed_Comes w_feed_Tick w_feed_Say w_feed_Notes w_feed_Since w_feed_Knows N x, u_law18_begun.F L0 P0 (orcOf [u_feed_Begin.con w_feed_Begin, u_feed_Comes.con w_feed_Comes, u_feed_Tick.con w_feed_Tick, u_feed_Say.con w_feed_Say, u_feed_Notes.con w_feed_Notes, u_feed_Since.con w_feed_Since, u_feed_Knows.con w_feed_Knows]) N x = V_law18_begun w_feed_Begin w_feed_Comes w_feed_Tick w_feed_Say w_feed_Notes w_feed_Since w_feed_Knows N x := by intros; kernel_rfl
noncomputable def W_law18_begun (N : Nat) := V_law18_begun (W_feed_Begin N) (W_feed_Comes N) (W_feed_Tick N) (W_feed_Say N) (W_feed_Notes N) (W_feed_Since N) (W_feed_Knows N) N
theorem con_law18_begun_ok (N : Nat) : (u_law18_begun.con (W_law18_begun N)).ok P0 := Uf.ok mixed (q_law18_begun (W_feed_Begin N) (W_feed_Comes N) (W_feed_Tick N) (W_feed_Say N) (W_feed_Notes N) (W_feed_Since N) (W_feed_Knows N) N) ⟨con_feed_Begin_ok N, con_feed_Comes_ok N, con_feed_Tick_ok N, con_feed_Say_ok N, con_feed_Notes_ok N, con_feed_Since_ok N, con_feed_Knows_ok N, trivial⟩ Try.func4 (by kernel_rfl) fun x y => by kernel_rfl
noncomputable def u_ref13_Knows : Uf := ⟨15, 18, Try.f15, [.val (.agg (.pair (.int .i64) (.pair (.int .i64) (.pair (.list (.agg (.pair (.int .i64) .str))) (.pair (.list (.agg (.pair (.int .i64) .str))) (.pair (.list (.agg (.pair (.int .i64) (.pair (.int .i64) (.pair (.int .i64) (.pair .str (.int .i64))))))) (.agg (.pair (.int .i64) (.int .i64))))))))), .val (.int .i64)], [],
⟨[(4, .ptr 600004 0)], [(600004, .box 29 (.val (.pair (.int .i64) (.pair (.int .i64) (.pair (.list (.agg (.pair (.int .i64) .str))) (.pair (.list (.agg (.pair (.int .i64) .str))) (.pair (.list (.agg (.pair (.int .i64) (.pair (.int .i64) (.pair (.int .i64) (.pair .str (.int .i64))))))) (.agg (.pair (.int .i64) (.int .i64))))))))))]⟩, [],
[],
[], fun y => (valW (.agg (.pair (.int .i64) (.pair (.int .i64) (.pair (.list (.agg (.pair (.int .i64) .str))) (.pair (.list (.agg (.pair (.int .i64) .str))) (.pair (.list (.agg (.pair (.int .i64) (.pair (.int .i64) (.pair (.int .i64) (.pair .str (.int .i64))))))) (.agg (.pair (.int .i64) (.int .i64))))))))) y, [], [])⟩
noncomputable def V_ref13_Knows (N : Nat) (x : (Int × Int × (List (Int × List UInt8)) × (List (Int × List UInt8)) × (List (Int × Int × Int × (List UInt8) × Int)) × Int × Int) × Int) : Option (Int × Int × (List (Int × List UInt8)) × (List (Int × List UInt8)) × (List (Int × Int × Int × (List UInt8) × Int)) × Int × Int) :=
  cnd (decide ((0:Int) < x.1.1)) (cnd (decide (x.2 ≤ (1000000:Int))) (some (x.1.1, max x.1.2.1 x.2, x.1.2.2)) (some x.1)) (some x.1)
theorem q_ref13_Knows : ∀ N x, u_ref13_Knows.F L0 P0 (orcOf []) N x = V_ref13_Knows N x := by intros; kernel_rfl
noncomputable def W_ref13_Knows (N : Nat) := V_ref13_Knows N
theorem con_ref13_Knows_ok (N : Nat) : (u_ref13_Knows.con (W_ref13_Knows N)).ok P0 := Uf.ok mixed (q_ref13_Knows N) trivial Try.func15 (by kernel_rfl) fun x y => by kernel_rfl
noncomputable def u_ref13_Begin : Uf := ⟨13, 21, Try.f13, [.val (.agg (.pair (.int .i64) (.pair (.int .i64) (.pair (.list (.agg (.pair (.int .i64) .str))) (.pair (.list (.agg (.pair (.int .i64) .str))) (.pair (.list (.agg (.pair (.int .i64) (.pair (.int .i64) (.pair (.int .i64) (.pair .str (.int .i64))))))) (.agg (.pair (.int .i64) (.int .i64))))))))), .val (.int .i64)], [],
⟨[(4, .ptr 600004 0)], [(600004, .box 29 (.val (.pair (.int .i64) (.pair (.int .i64) (.pair (.list (.agg (.pair (.int .i64) .str))) (.pair (.list (.agg (.pair (.int .i64) .str))) (.pair (.list (.agg (.pair (.int .i64) (.pair (.int .i64) (.pair (.int .i64) (.pair .str (.int .i64))))))) (.agg (.pair (.int .i64) (.int .i64))))))))))]⟩, [],
[],
[], fun y => (valW (.agg (.pair (.int .i64) (.pair (.int .i64) (.pair (.list (.agg (.pair (.int .i64) .str))) (.pair (.list (.agg (.pair (.int .i64) .str))) (.pair (.list (.agg (.pair (.int .i64) (.pair (.int .i64) (.pair (.int .i64) (.pair .str (.int .i64))))))) (.agg (.pair (.int .i64) (.int .i64))))))))) y, [], [])⟩
noncomputable def V_ref13_Begin (w_ref13_Knows : (Int × Int × (List (Int × List UInt8)) × (List (Int × List UInt8)) × (List (Int × Int × Int × (List UInt8) × Int)) × Int × Int) × Int → Option (Int × Int × (List (Int × List UInt8)) × (List (Int × List UInt8)) × (List (Int × Int × Int × (List UInt8) × Int)) × Int × Int)) (N : Nat) (x : (Int × Int × (List (Int × List UInt8)) × (List (Int × List UInt8)) × (List (Int × Int × Int × (List UInt8) × Int)) × Int × Int) × Int) : Option (Int × Int × (List (Int × List UInt8)) × (List (Int × List UInt8)) × (List (Int × Int × Int × (List UInt8) × Int)) × Int × Int) :=
  cnd (decide ((0:Int) < x.1.1)) (obind (w_ref13_Knows (x.1, wr .i64 (x.2 - (1:Int)))) fun b => some b) (cnd (decide ((1:Int) ≤ x.2)) (cnd (decide (x.2 ≤ (1000000:Int))) (some (x.2, x.1.2)) (some x.1)) (some x.1))
theorem q_ref13_Begin : ∀ w_ref13_Knows N x, u_ref13_Begin.F L0 P0 (orcOf [u_ref13_Knows.con w_ref13_Knows]) N x = V_ref13_Begin w_ref13_Knows N x := by intros; kernel_rfl
noncomputable def W_ref13_Begin (N : Nat) := V_ref13_Begin (W_ref13_Knows N) N
theorem con_ref13_Begin_ok (N : Nat) : (u_ref13_Begin.con (W_ref13_Begin N)).ok P0 := Uf.ok mixed (q_ref13_Begin (W_ref13_Knows N) N) ⟨con_ref13_Knows_ok N, trivial⟩ Try.func13 (by kernel_rfl) fun x y => by kernel_rfl
noncomputable def u_ref1_MaySpan : Uf := ⟨30, 18, Try.f30, [.val (.agg (.pair (.int .i64) (.int .i64)))], [],
⟨[(2, .val .bool)], []⟩, [],
[],
[(1000001, .reg [(10, [], ⟨[(1, .ptr 600001 0), (12, .val .bool)], [(600001, .box 45 (.val (.pair (.int .i64) (.int .i64))))]⟩)])], fun y => (valW .bool y, [], [])⟩
noncomputable def V_ref1_MaySpan (N : Nat) (x : Int × Int) : Option (Bool) :=
  obind (cnd (decide ((1:Int) ≤ x.1)) (some (decide (x.1 ≤ x.2), x)) (some (false, x))) fun (b : Bool × Int × Int) => cnd b.1 (some (decide (b.2.2 ≤ (1000000:Int)))) (some false)
theorem q_ref1_MaySpan : ∀ N x, u_ref1_MaySpan.F L0 P0 (orcOf []) N x = V_ref1_MaySpan N x := by intros; kernel_rfl
noncomputable def W_ref1_MaySpan (N : Nat) := V_ref1_MaySpan N
theorem con_ref1_MaySpan_ok (N : Nat) : (u_ref1_MaySpan.con (W_ref1_MaySpan N)).ok P0 := Uf.ok mixed (q_ref1_MaySpan N) trivial Try.func30 (by kernel_rfl) fun x y => by kernel_rfl
noncomputable def u_ref13_First : Uf := ⟨47, 10, Try.f47, [.val (.list (.agg (.pair (.int .i64) .str)))], [],
⟨[(2, .val (.int .i64))], []⟩, [],
[],
[], fun y => (valW (.int .i64) y, [], [])⟩
noncomputable def V_ref13_First (N : Nat) (x : List (Int × List UInt8)) : Option (Int) :=
  cnd (decide ((↑(List.length x) : Int) = (0:Int))) (some (0:Int)) (cnd (decide ((0:Int) ≤ (0:Int)) && decide ((0:Int) < (↑(List.length x) : Int))) (some (Prod.fst (List.getD x (0:Nat) ((0:Int), [])))) none)
theorem q_ref13_First : ∀ N x, u_ref13_First.F L0 P0 (orcOf []) N x = V_ref13_First N x := by intros; kernel_rfl
noncomputable def W_ref13_First (N : Nat) := V_ref13_First N
theorem con_ref13_First_ok (N : Nat) : (u_ref13_First.con (W_ref13_First N)).ok P0 := Uf.ok mixed (q_ref13_First N) trivial Try.func47 (by kernel_rfl) fun x y => by kernel_rfl
noncomputable def u_ref13_Skip : Uf := ⟨48, 18, Try.f48, [.val (.list (.agg (.pair (.int .i64) (.pair (.int .i64) (.pair (.int .i64) (.pair .str (.int .i64))))))), .val (.int .i64), .val (.int .i64), .val (.int .i64)], [],
⟨[(8, .val (.list (.agg (.pair (.int .i64) (.pair (.int .i64) (.pair (.int .i64) (.pair .str (.int .i64))))))))], []⟩, [],
[],
[], fun y => (valW (.list (.agg (.pair (.int .i64) (.pair (.int .i64) (.pair (.int .i64) (.pair .str (.int .i64))))))) y, [], [])⟩
noncomputable def V_ref13_Skip (N : Nat) (x : (List (Int × Int × Int × (List UInt8) × Int)) × Int × Int × Int) : Option (List (Int × Int × Int × (List UInt8) × Int)) :=
  cnd (decide (List.length x.1 * (48:Nat) ≤ (140737488355328:Nat))) (cnd (decide ((List.length x.1 + (1:Nat)) * (48:Nat) ≤ (140737488355328:Nat))) (some (x.1 ++ [((2:Int), x.2.1, x.2.2.1, [], x.2.2.2)])) none) none
theorem q_ref13_Skip : ∀ N x, u_ref13_Skip.F L0 P0 (orcOf []) N x = V_ref13_Skip N x := by intros; kernel_rfl
noncomputable def W_ref13_Skip (N : Nat) := V_ref13_Skip N
theorem con_ref13_Skip_ok (N : Nat) : (u_ref13_Skip.con (W_ref13_Skip N)).ok P0 := Uf.ok mixed (q_ref13_Skip N) trivial Try.func48 (by kernel_rfl) fun x y => by kernel_rfl
noncomputable def u_ref13_TakeWin : Uf := ⟨49, 27, Try.f49, [.val (.list (.agg (.pair (.int .i64) .str))), .val (.int .i64)], [],
⟨[(4, .val (.list (.agg (.pair (.int .i64) .str)))), (5, .ptr 600005 0), (6, .val .bool)], [(600005, .box 43 (.val (.pair (.int .i64) .str)))]⟩, [],
[],
[], fun y => (.tup [valW (.list (.agg (.pair (.int .i64) .str))) y.1, valW (.agg (.pair (.int .i64) .str)) y.2.2, valW .bool y.2.1], [], [])⟩
noncomputable def V_ref13_TakeWin (N : Nat) (x : (List (Int × List UInt8)) × Int) : Option ((List (Int × List UInt8)) × Bool × Int × List UInt8) :=
  cnd (decide ((↑(List.length x.1) : Int) = (0:Int))) (some (x.1, false, (0:Int), [])) (cnd (decide ((0:Int) ≤ (0:Int)) && decide ((0:Int) <
    (↑(List.length x.1) : Int))) (cnd (decide (Prod.fst (List.getD x.1 (0:Nat) ((0:Int), [])) ≠ x.2)) (some (x.1, false, (0:Int), [])) (cnd (decide
    ((0:Int) ≤ (1:Int)) && decide ((1:Int) ≤ (↑(List.length x.1) : Int))) (cnd (decide (List.length (List.drop (1:Nat) (List.take (List.length x.1)
    x.1)) * (24:Nat) ≤ (140737488355328:Nat))) (cnd (decide ((0:Int) ≤ (0:Int)) && decide ((0:Int) < (↑(List.length x.1) : Int))) (some (List.drop
    (1:Nat) (List.take (List.length x.1) x.1), true, Prod.fst (List.getD x.1 (0:Nat) ((0:Int), [])), Prod.snd (List.getD x.1 (0:Nat) ((0:Int), []))))
    none) none) none)) none)
theorem q_ref13_TakeWin : ∀ N x, u_ref13_TakeWin.F L0 P0 (orcOf []) N x = V_ref13_TakeWin N x := by intros; kernel_rfl
noncomputable def W_ref13_TakeWin (N : Nat) := V_ref13_TakeWin N
theorem con_ref13_TakeWin_ok (N : Nat) : (u_ref13_TakeWin.con (W_ref13_TakeWin N)).ok P0 := Uf.ok mixed (q_ref13_TakeWin N) trivial Try.func49 (by kernel_rfl) fun x y => by kernel_rfl
noncomputable def u_ref13_Tell : Uf := ⟨50, 16, Try.f50, [.val (.list (.agg (.pair (.int .i64) (.pair (.int .i64) (.pair (.int .i64) (.pair .str (.int .i64))))))), .val (.int .i64), .val .str], [],
⟨[(6, .val (.list (.agg (.pair (.int .i64) (.pair (.int .i64) (.pair (.int .i64) (.pair .str (.int .i64))))))))], []⟩, [],
[],
[], fun y => (valW (.list (.agg (.pair (.int .i64) (.pair (.int .i64) (.pair (.int .i64) (.pair .str (.int .i64))))))) y, [], [])⟩
noncomputable def V_ref13_Tell (N : Nat) (x : (List (Int × Int × Int × (List UInt8) × Int)) × Int × List UInt8) : Option (List (Int × Int × Int × (List UInt8) × Int)) :=
  cnd (decide (List.length x.1 * (48:Nat) ≤ (140737488355328:Nat))) (cnd (decide ((List.length x.1 + List.length [((1:Int), x.2.1, x.2.1, x.2.2, (0:Int))]) * (48:Nat) ≤ (140737488355328:Nat))) (some (x.1 ++ [((1:Int), x.2.1, x.2.1, x.2.2, (0:Int))])) none) none
theorem q_ref13_Tell : ∀ N x, u_ref13_Tell.F L0 P0 (orcOf []) N x = V_ref13_Tell N x := by intros; kernel_rfl
noncomputable def W_ref13_Tell (N : Nat) := V_ref13_Tell N
theorem con_ref13_Tell_ok (N : Nat) : (u_ref13_Tell.con (W_ref13_Tell N)).ok P0 := Uf.ok mixed (q_ref13_Tell N) trivial Try.func50 (by kernel_rfl) fun x y => by kernel_rfl
noncomputable def u_ref13_AddRing : Uf := ⟨51, 35, Try.f51, [.val (.list (.agg (.pair (.int .i64) .str))), .val (.agg (.pair (.int .i64) .str))], [],
⟨[(4, .val (.list (.agg (.pair (.int .i64) .str))))], []⟩, [],
[],
[], fun y => (valW (.list (.agg (.pair (.int .i64) .str))) y, [], [])⟩
noncomputable def V_ref13_AddRing (N : Nat) (x : (List (Int × List UInt8)) × Int × List UInt8) : Option (List (Int × List UInt8)) :=
  cnd (decide (List.length x.1 * (24:Nat) ≤ (140737488355328:Nat))) (cnd (decide ((0:Int) < (↑(List.length x.1) : Int))) (cnd (decide ((0:Int) ≤ wr .i64
    ((↑(List.length x.1) : Int) - (1:Int))) && decide (wr .i64 ((↑(List.length x.1) : Int) - (1:Int)) < (↑(List.length x.1) : Int))) (cnd (decide (x.2.1
    ≤ Prod.fst (List.getD x.1 (Int.toNat (wr .i64 ((↑(List.length x.1) : Int) - (1:Int)))) ((0:Int), [])))) (some x.1) (cnd (decide ((List.length x.1 +
    List.length [x.2]) * (24:Nat) ≤ (140737488355328:Nat))) (cnd (decide ((6:Int) < (↑(List.length (x.1 ++ [x.2])) : Int))) (cnd (decide (Option.getD
    (some (1:Int)) (0:Int) ≤ (↑(List.length (x.1 ++ [x.2])) : Int))) (some (List.drop ((0:Nat) + Prod.fst (Prod.snd (cutT (0:Nat) (List.length (x.1 ++
    [x.2])) (List.length (x.1 ++ [x.2])) (some (1:Int)) none))) (List.take ((0:Nat) + Prod.fst (Prod.snd (cutT (0:Nat) (List.length (x.1 ++ [x.2]))
    (List.length (x.1 ++ [x.2])) (some (1:Int)) none)) + (Prod.snd (Prod.snd (cutT (0:Nat) (List.length (x.1 ++ [x.2])) (List.length (x.1 ++ [x.2]))
    (some (1:Int)) none)) - Prod.fst (Prod.snd (cutT (0:Nat) (List.length (x.1 ++ [x.2])) (List.length (x.1 ++ [x.2])) (some (1:Int)) none)))) (x.1 ++
    [x.2])))) none) (some (x.1 ++ [x.2]))) none)) none) (cnd (decide ((List.length x.1 + List.length [x.2]) * (24:Nat) ≤ (140737488355328:Nat))) (cnd
    (decide ((6:Int) < (↑(List.length (x.1 ++ [x.2])) : Int))) (cnd (decide (Option.getD (some (1:Int)) (0:Int) ≤ (↑(List.length (x.1 ++ [x.2])) :
    Int))) (some (List.drop ((0:Nat) + Prod.fst (Prod.snd (cutT (0:Nat) (List.length (x.1 ++ [x.2])) (List.length (x.1 ++ [x.2])) (some (1:Int)) none)))
    (List.take ((0:Nat) + Prod.fst (Prod.snd (cutT (0:Nat) (List.length (x.1 ++ [x.2])) (List.length (x.1 ++ [x.2])) (some (1:Int)) none)) + (Prod.snd
    (Prod.snd (cutT (0:Nat) (List.length (x.1 ++ [x.2])) (List.length (x.1 ++ [x.2])) (some (1:Int)) none)) - Prod.fst (Prod.snd (cutT (0:Nat)
    (List.length (x.1 ++ [x.2])) (List.length (x.1 ++ [x.2])) (some (1:Int)) none)))) (x.1 ++ [x.2])))) none) (some (x.1 ++ [x.2]))) none)) none
theorem q_ref13_AddRing : ∀ N x, u_ref13_AddRing.F L0 P0 (orcOf []) N x = V_ref13_AddRing N x := by intros; kernel_rfl
noncomputable def W_ref13_AddRing (N : Nat) := V_ref13_AddRing N
theorem con_ref13_AddRing_ok (N : Nat) : (u_ref13_AddRing.con (W_ref13_AddRing N)).ok P0 := Uf.ok mixed (q_ref13_AddRing N) trivial Try.func51 (by kernel_rfl) fun x y => by kernel_rfl
noncomputable def u_ref13_Goes : Uf := ⟨32, 46, Try.f32, [.val (.agg (.pair (.int .i64) (.pair (.int .i64) (.pair (.list (.agg (.pair (.int .i64) .str))) (.pair (.list (.agg (.pair (.int .i64) .str))) (.pair (.list (.agg (.pair (.int .i64) (.pair (.int .i64) (.pair (.int .i64) (.pair .str (.int .i64))))))) (.agg (.pair (.int .i64) (.int .i64)))))))))], [],
⟨[(2, .ptr 600002 0), (3, .val (.list (.agg (.pair (.int .i64) .str))))], [(600002, .box 29 (.val (.pair (.int .i64) (.pair (.int .i64) (.pair (.list (.agg (.pair (.int .i64) .str))) (.pair (.list (.agg (.pair (.int .i64) .str))) (.pair (.list (.agg (.pair (.int .i64) (.pair (.int .i64) (.pair (.int .i64) (.pair .str (.int .i64))))))) (.agg (.pair (.int .i64) (.int .i64))))))))))]⟩, [],
[(2, .loop [] ⟨[(1, .ptr 600001 0), (2, .ptr 600002 0), (4, .acc 700004)], [(600001, .box 29 (.val (.pair (.int .i64) (.pair (.int .i64) (.pair (.list (.agg (.pair (.int .i64) .str))) (.pair (.list (.agg (.pair (.int .i64) .str))) (.pair (.list (.agg (.pair (.int .i64) (.pair (.int .i64) (.pair (.int .i64) (.pair .str (.int .i64))))))) (.agg (.pair (.int .i64) (.int .i64)))))))))), (600002, .box 29 (.val (.pair (.int .i64) (.pair (.int .i64) (.pair (.list (.agg (.pair (.int .i64) .str))) (.pair (.list (.agg (.pair (.int .i64) .str))) (.pair (.list (.agg (.pair (.int .i64) (.pair (.int .i64) (.pair (.int .i64) (.pair .str (.int .i64))))))) (.agg (.pair (.int .i64) (.int .i64)))))))))), (700004, .nrow 43 (.agg (.pair (.int .i64) .str)) true true)]⟩ [(.ret, ⟨[(2, .ptr 600002 0), (3, .val (.list (.agg (.pair (.int .i64) .str))))], [(600002, .box 29 (.val (.pair (.int .i64) (.pair (.int .i64) (.pair (.list (.agg (.pair (.int .i64) .str))) (.pair (.list (.agg (.pair (.int .i64) .str))) (.pair (.list (.agg (.pair (.int .i64) (.pair (.int .i64) (.pair (.int .i64) (.pair .str (.int .i64))))))) (.agg (.pair (.int .i64) (.int .i64))))))))))]⟩)])],
[], fun y => (.tup [valW (.agg (.pair (.int .i64) (.pair (.int .i64) (.pair (.list (.agg (.pair (.int .i64) .str))) (.pair (.list (.agg (.pair (.int .i64) .str))) (.pair (.list (.agg (.pair (.int .i64) (.pair (.int .i64) (.pair (.int .i64) (.pair .str (.int .i64))))))) (.agg (.pair (.int .i64) (.int .i64))))))))) y.2, valW (.list (.agg (.pair (.int .i64) .str))) y.1], [], [])⟩
noncomputable def V_ref13_Goes (w_ref13_TakeWin : (List (Int × List UInt8)) × Int → Option ((List (Int × List UInt8)) × Bool × Int × List UInt8)) (w_ref13_Tell : (List (Int × Int × Int × (List UInt8) × Int)) × Int × List UInt8 → Option (List (Int × Int × Int × (List UInt8) × Int))) (w_ref13_AddRing : (List (Int × List UInt8)) × Int × List UInt8 → Option (List (Int × List UInt8))) (N : Nat) (x : Int × Int × (List (Int × List UInt8)) × (List (Int × List UInt8)) × (List (Int × Int × Int × (List UInt8) × Int)) × Int × Int) : Option ((List (Int × List UInt8)) × Int × Int × (List (Int × List UInt8)) × (List (Int × List UInt8)) × (List (Int × Int × Int × (List UInt8) × Int)) × Int × Int) :=
  obind (loopN N (fun (v : (Int × Int × List (Int × List UInt8) × List (Int × List UInt8) × List (Int × Int × Int × List UInt8 × Int) × Int × Int) ×
    (Int × Int × List (Int × List UInt8) × List (Int × List UInt8) × List (Int × Int × Int × List UInt8 × Int) × Int × Int) × List (Int × List UInt8))
    => obind (w_ref13_TakeWin (v.1.2.2.2.1, v.1.1)) fun b => cnd (!b.2.1) (some (Sum.inr (v.2.2, v.1))) (obind (w_ref13_Tell (v.1.2.2.2.2.1, b.2.2))
    fun b_1 => obind (w_ref13_AddRing (v.1.2.2.1, b.2.2)) fun b_2 => cnd (decide ((List.length v.2.2 + List.length [b.2.2]) * (24:Nat) ≤
    (140737488355328:Nat))) (some (Sum.inl ((wr .i64 (v.1.1 + (1:Int)), v.1.2.1, b_2, b.1, b_1, (0:Int), (0:Int)), v.2.1, v.2.2 ++ [b.2.2]))) none)) (x,
    ((0:Int), (0:Int), [], [], [], (0:Int), (0:Int)), [])) fun (b : List (Int × List UInt8) × Int × Int × List (Int × List UInt8) × List (Int × List
    UInt8) × List (Int × Int × Int × List UInt8 × Int) × Int × Int) => some b
theorem q_ref13_Goes : ∀ w_ref13_TakeWin w_ref13_Tell w_ref13_AddRing N x, u_ref13_Goes.F L0 P0 (orcOf [u_ref13_TakeWin.con w_ref13_TakeWin, u_ref13_Tell.con w_ref13_Tell, u_ref13_AddRing.con w_ref13_AddRing]) N x = V_ref13_Goes w_ref13_TakeWin w_ref13_Tell w_ref13_AddRing N x := by intros; kernel_rfl
noncomputable def W_ref13_Goes (N : Nat) := V_ref13_Goes (W_ref13_TakeWin N) (W_ref13_Tell N) (W_ref13_AddRing N) N
theorem con_ref13_Goes_ok (N : Nat) : (u_ref13_Goes.con (W_ref13_Goes N)).ok P0 := Uf.ok mixed (q_ref13_Goes (W_ref13_TakeWin N) (W_ref13_Tell N) (W_ref13_AddRing N) N) ⟨con_ref13_TakeWin_ok N, con_ref13_Tell_ok N, con_ref13_AddRing_ok N, trivial⟩ Try.func32 (by kernel_rfl) fun x y => by kernel_rfl
noncomputable def u_ref13_Skips : Uf := ⟨31, 73, Try.f31, [.val (.agg (.pair (.int .i64) (.pair (.int .i64) (.pair (.list (.agg (.pair (.int .i64) .str))) (.pair (.list (.agg (.pair (.int .i64) .str))) (.pair (.list (.agg (.pair (.int .i64) (.pair (.int .i64) (.pair (.int .i64) (.pair .str (.int .i64))))))) (.agg (.pair (.int .i64) (.int .i64))))))))), .val (.int .i64), .val (.int .i64)], [],
⟨[(6, .ptr 600006 0), (7, .val (.list (.agg (.pair (.int .i64) (.int .i64)))))], [(600006, .box 29 (.val (.pair (.int .i64) (.pair (.int .i64) (.pair (.list (.agg (.pair (.int .i64) .str))) (.pair (.list (.agg (.pair (.int .i64) .str))) (.pair (.list (.agg (.pair (.int .i64) (.pair (.int .i64) (.pair (.int .i64) (.pair .str (.int .i64))))))) (.agg (.pair (.int .i64) (.int .i64))))))))))]⟩, [],
[(4, .loop [] ⟨[(3, .ptr 600003 0), (6, .ptr 600006 0), (8, .acc 700008)], [(600003, .box 29 (.val (.pair (.int .i64) (.pair (.int .i64) (.pair (.list (.agg (.pair (.int .i64) .str))) (.pair (.list (.agg (.pair (.int .i64) .str))) (.pair (.list (.agg (.pair (.int .i64) (.pair (.int .i64) (.pair (.int .i64) (.pair .str (.int .i64))))))) (.agg (.pair (.int .i64) (.int .i64)))))))))), (600006, .box 29 (.val (.pair (.int .i64) (.pair (.int .i64) (.pair (.list (.agg (.pair (.int .i64) .str))) (.pair (.list (.agg (.pair (.int .i64) .str))) (.pair (.list (.agg (.pair (.int .i64) (.pair (.int .i64) (.pair (.int .i64) (.pair .str (.int .i64))))))) (.agg (.pair (.int .i64) (.int .i64)))))))))), (700008, .nrow 45 (.agg (.pair (.int .i64) (.int .i64))) true true)]⟩ [(.exit 0, ⟨[(3, .ptr 600003 0), (6, .ptr 600006 0), (8, .val (.list (.agg (.pair (.int .i64) (.int .i64)))))], [(600003, .box 29 (.val (.pair (.int .i64) (.pair (.int .i64) (.pair (.list (.agg (.pair (.int .i64) .str))) (.pair (.list (.agg (.pair (.int .i64) .str))) (.pair (.list (.agg (.pair (.int .i64) (.pair (.int .i64) (.pair (.int .i64) (.pair .str (.int .i64))))))) (.agg (.pair (.int .i64) (.int .i64)))))))))), (600006, .box 29 (.val (.pair (.int .i64) (.pair (.int .i64) (.pair (.list (.agg (.pair (.int .i64) .str))) (.pair (.list (.agg (.pair (.int .i64) .str))) (.pair (.list (.agg (.pair (.int .i64) (.pair (.int .i64) (.pair (.int .i64) (.pair .str (.int .i64))))))) (.agg (.pair (.int .i64) (.int .i64))))))))))]⟩)])],
[(13, .cut [] [(.normal, ⟨[(3, .ptr 600003 0), (6, .ptr 600006 0), (8, .acc 700008)], [(600003, .box 29 (.val (.pair (.int .i64) (.pair (.int .i64) (.pair (.list (.agg (.pair (.int .i64) .str))) (.pair (.list (.agg (.pair (.int .i64) .str))) (.pair (.list (.agg (.pair (.int .i64) (.pair (.int .i64) (.pair (.int .i64) (.pair .str (.int .i64))))))) (.agg (.pair (.int .i64) (.int .i64)))))))))), (600006, .box 29 (.val (.pair (.int .i64) (.pair (.int .i64) (.pair (.list (.agg (.pair (.int .i64) .str))) (.pair (.list (.agg (.pair (.int .i64) .str))) (.pair (.list (.agg (.pair (.int .i64) (.pair (.int .i64) (.pair (.int .i64) (.pair .str (.int .i64))))))) (.agg (.pair (.int .i64) (.int .i64)))))))))), (700008, .nrow 45 (.agg (.pair (.int .i64) (.int .i64))) true true)]⟩)]),
(9, .cut [] [(.normal, ⟨[(3, .ptr 600003 0), (6, .ptr 600006 0), (8, .acc 700008), (9, .val (.int .i64))], [(600003, .box 29 (.val (.pair (.int .i64) (.pair (.int .i64) (.pair (.list (.agg (.pair (.int .i64) .str))) (.pair (.list (.agg (.pair (.int .i64) .str))) (.pair (.list (.agg (.pair (.int .i64) (.pair (.int .i64) (.pair (.int .i64) (.pair .str (.int .i64))))))) (.agg (.pair (.int .i64) (.int .i64)))))))))), (600006, .box 29 (.val (.pair (.int .i64) (.pair (.int .i64) (.pair (.list (.agg (.pair (.int .i64) .str))) (.pair (.list (.agg (.pair (.int .i64) .str))) (.pair (.list (.agg (.pair (.int .i64) (.pair (.int .i64) (.pair (.int .i64) (.pair .str (.int .i64))))))) (.agg (.pair (.int .i64) (.int .i64)))))))))), (700008, .nrow 45 (.agg (.pair (.int .i64) (.int .i64))) true true)]⟩)])], fun y => (.tup [valW (.agg (.pair (.int .i64) (.pair (.int .i64) (.pair (.list (.agg (.pair (.int .i64) .str))) (.pair (.list (.agg (.pair (.int .i64) .str))) (.pair (.list (.agg (.pair (.int .i64) (.pair (.int .i64) (.pair (.int .i64) (.pair .str (.int .i64))))))) (.agg (.pair (.int .i64) (.int .i64))))))))) y.2, valW (.list (.agg (.pair (.int .i64) (.int .i64)))) y.1], [], [])⟩
noncomputable def V_ref13_Skips (w_ref13_First : List (Int × List UInt8) → Option (Int)) (w_ref13_Skip : (List (Int × Int × Int × (List UInt8) × Int)) × Int × Int × Int → Option (List (Int × Int × Int × (List UInt8) × Int))) (w_ref13_Goes : Int × Int × (List (Int × List UInt8)) × (List (Int × List UInt8)) × (List (Int × Int × Int × (List UInt8) × Int)) × Int × Int → Option ((List (Int × List UInt8)) × Int × Int × (List (Int × List UInt8)) × (List (Int × List UInt8)) × (List (Int × Int × Int × (List UInt8) × Int)) × Int × Int)) (N : Nat) (x : (Int × Int × (List (Int × List UInt8)) × (List (Int × List UInt8)) × (List (Int × Int × Int × (List UInt8) × Int)) × Int × Int) × Int × Int) : Option ((List (Int × Int)) × Int × Int × (List (Int × List UInt8)) × (List (Int × List UInt8)) × (List (Int × Int × Int × (List UInt8) × Int)) × Int × Int) :=
  cnd (decide (x.1.1 < (1:Int))) (some ([], x.1)) (cnd (decide ((1000000:Int) < x.2.1)) (some ([], x.1)) (obind (loopN N (fun (v : (Int × Int × List
    (Int × List UInt8) × List (Int × List UInt8) × List (Int × Int × Int × List UInt8 × Int) × Int × Int) × (Int × Int × List (Int × List UInt8) × List
    (Int × List UInt8) × List (Int × Int × Int × List UInt8 × Int) × Int × Int) × List (Int × Int)) => cnd (decide (v.1.1 ≤ x.2.1)) (obind (cnd (decide
    ((0:Int) < (↑(List.length v.1.2.2.2.1) : Int))) (obind (w_ref13_First v.1.2.2.2.1) fun b => cnd (decide (b ≤ x.2.1)) (obind (w_ref13_First
    v.1.2.2.2.1) fun b => some (wr .i64 (b - (1:Int)), (v.1.1, v.1.2.1, v.1.2.2.1, v.1.2.2.2.1, v.1.2.2.2.2.1, (0:Int), (0:Int)), v.2)) (some (x.2.1,
    (v.1.1, v.1.2.1, v.1.2.2.1, v.1.2.2.2.1, v.1.2.2.2.2.1, (0:Int), (0:Int)), v.2))) (some (x.2.1, (v.1.1, v.1.2.1, v.1.2.2.1, v.1.2.2.2.1,
    v.1.2.2.2.2.1, (0:Int), (0:Int)), v.2))) fun (b : Int × (Int × Int × List (Int × List UInt8) × List (Int × List UInt8) × List (Int × Int × Int ×
    List UInt8 × Int) × Int × Int) × (Int × Int × List (Int × List UInt8) × List (Int × List UInt8) × List (Int × Int × Int × List UInt8 × Int) × Int ×
    Int) × List (Int × Int)) => obind (cnd (decide (b.2.1.1 ≤ b.1)) (obind (w_ref13_Skip (b.2.1.2.2.2.2.1, b.2.1.1, b.1, x.2.2)) fun b_1 => cnd
    (decide ((List.length b.2.2.2 + List.length [(b.2.1.1, b.1)]) * (16:Nat) ≤ (140737488355328:Nat))) (some ((wr .i64 (b.1 + (1:Int)), b.2.1.2.1,
    b.2.1.2.2.1, b.2.1.2.2.2.1, b_1, b.2.1.2.2.2.2.2), b.2.2.1, b.2.2.2 ++ [(b.2.1.1, b.1)])) none) (some b.2)) fun (b : (Int × Int × List (Int × List
    UInt8) × List (Int × List UInt8) × List (Int × Int × Int × List UInt8 × Int) × Int × Int) × (Int × Int × List (Int × List UInt8) × List (Int × List
    UInt8) × List (Int × Int × Int × List UInt8 × Int) × Int × Int) × List (Int × Int)) => cnd (decide (b.1.1 ≤ x.2.1)) (obind (w_ref13_Goes b.1) fun
    b_1 => some (Sum.inl (b_1.2, b.2))) (some (Sum.inl b))) (some (Sum.inr (v.2.2, v.1, v.2.1)))) (x.1, ((0:Int), (0:Int), [], [], [], (0:Int),
    (0:Int)), [])) fun (b : List (Int × Int) × (Int × Int × List (Int × List UInt8) × List (Int × List UInt8) × List (Int × Int × Int × List UInt8 ×
    Int) × Int × Int) × Int × Int × List (Int × List UInt8) × List (Int × List UInt8) × List (Int × Int × Int × List UInt8 × Int) × Int × Int) => some
    (b.1, b.2.1)))
theorem q_ref13_Skips : ∀ w_ref13_First w_ref13_Skip w_ref13_Goes N x, u_ref13_Skips.F L0 P0 (orcOf [u_ref13_First.con w_ref13_First, u_ref13_Skip.con w_ref13_Skip, u_ref13_Goes.con w_ref13_Goes]) N x = V_ref13_Skips w_ref13_First w_ref13_Skip w_ref13_Goes N x := by intros; kernel_rfl
noncomputable def W_ref13_Skips (N : Nat) := V_ref13_Skips (W_ref13_First N) (W_ref13_Skip N) (W_ref13_Goes N) N
theorem con_ref13_Skips_ok (N : Nat) : (u_ref13_Skips.con (W_ref13_Skips N)).ok P0 := Uf.ok mixed (q_ref13_Skips (W_ref13_First N) (W_ref13_Skip N) (W_ref13_Goes N) N) ⟨con_ref13_First_ok N, con_ref13_Skip_ok N, con_ref13_Goes_ok N, trivial⟩ Try.func31 (by kernel_rfl) fun x y => by kernel_rfl
noncomputable def u_ref13_Notes : Uf := ⟨14, 44, Try.f14, [.val (.agg (.pair (.int .i64) (.pair (.int .i64) (.pair (.list (.agg (.pair (.int .i64) .str))) (.pair (.list (.agg (.pair (.int .i64) .str))) (.pair (.list (.agg (.pair (.int .i64) (.pair (.int .i64) (.pair (.int .i64) (.pair .str (.int .i64))))))) (.agg (.pair (.int .i64) (.int .i64))))))))), .val (.int .i64), .val (.int .i64)], [],
⟨[(6, .ptr 600006 0)], [(600006, .box 29 (.val (.pair (.int .i64) (.pair (.int .i64) (.pair (.list (.agg (.pair (.int .i64) .str))) (.pair (.list (.agg (.pair (.int .i64) .str))) (.pair (.list (.agg (.pair (.int .i64) (.pair (.int .i64) (.pair (.int .i64) (.pair .str (.int .i64))))))) (.agg (.pair (.int .i64) (.int .i64))))))))))]⟩, [],
[],
[], fun y => (valW (.agg (.pair (.int .i64) (.pair (.int .i64) (.pair (.list (.agg (.pair (.int .i64) .str))) (.pair (.list (.agg (.pair (.int .i64) .str))) (.pair (.list (.agg (.pair (.int .i64) (.pair (.int .i64) (.pair (.int .i64) (.pair .str (.int .i64))))))) (.agg (.pair (.int .i64) (.int .i64))))))))) y, [], [])⟩
noncomputable def V_ref13_Notes (w_ref1_MaySpan : Int × Int → Option (Bool)) (w_ref13_Knows : (Int × Int × (List (Int × List UInt8)) × (List (Int × List UInt8)) × (List (Int × Int × Int × (List UInt8) × Int)) × Int × Int) × Int → Option (Int × Int × (List (Int × List UInt8)) × (List (Int × List UInt8)) × (List (Int × Int × Int × (List UInt8) × Int)) × Int × Int)) (w_ref13_Skips : (Int × Int × (List (Int × List UInt8)) × (List (Int × List UInt8)) × (List (Int × Int × Int × (List UInt8) × Int)) × Int × Int) × Int × Int → Option ((List (Int × Int)) × Int × Int × (List (Int × List UInt8)) × (List (Int × List UInt8)) × (List (Int × Int × Int × (List UInt8) × Int)) × Int × Int)) (w_ref13_Goes : Int × Int × (List (Int × List UInt8)) × (List (Int × List UInt8)) × (List (Int × Int × Int × (List UInt8) × Int)) × Int × Int → Option ((List (Int × List UInt8)) × Int × Int × (List (Int × List UInt8)) × (List (Int × List UInt8)) × (List (Int × Int × Int × (List UInt8) × Int)) × Int × Int)) (N : Nat) (x : (Int × Int × (List (Int × List UInt8)) × (List (Int × List UInt8)) × (List (Int × Int × Int × (List UInt8) × Int)) × Int × Int) × Int × Int) : Option (Int × Int × (List (Int × List UInt8)) × (List (Int × List UInt8)) × (List (Int × Int × Int × (List UInt8) × Int)) × Int × Int) :=
  cnd (decide (x.1.1 = (0:Int))) (some x.1) (obind (w_ref1_MaySpan x.2) fun b => cnd (!b) (some x.1) (obind (w_ref13_Knows (x.1, x.2.2)) fun b =>
    cnd (decide (b.1 < x.2.1)) (some b) (cnd (decide (x.2.2 < b.1)) (some b) (obind (w_ref13_Skips (b, x.2.2, (1:Int))) fun b => obind (w_ref13_Goes
    b.2) fun b => some b.2))))
theorem q_ref13_Notes : ∀ w_ref1_MaySpan w_ref13_Knows w_ref13_Skips w_ref13_Goes N x, u_ref13_Notes.F L0 P0 (orcOf [u_ref1_MaySpan.con w_ref1_MaySpan, u_ref13_Knows.con w_ref13_Knows, u_ref13_Skips.con w_ref13_Skips, u_ref13_Goes.con w_ref13_Goes]) N x = V_ref13_Notes w_ref1_MaySpan w_ref13_Knows w_ref13_Skips w_ref13_Goes N x := by intros; kernel_rfl
noncomputable def W_ref13_Notes (N : Nat) := V_ref13_Notes (W_ref1_MaySpan N) (W_ref13_Knows N) (W_ref13_Skips N) (W_ref13_Goes N) N
theorem con_ref13_Notes_ok (N : Nat) : (u_ref13_Notes.con (W_ref13_Notes N)).ok P0 := Uf.ok mixed (q_ref13_Notes (W_ref1_MaySpan N) (W_ref13_Knows N) (W_ref13_Skips N) (W_ref13_Goes N) N) ⟨con_ref1_MaySpan_ok N, con_ref13_Knows_ok N, con_ref13_Skips_ok N, con_ref13_Goes_ok N, trivial⟩ Try.func14 (by kernel_rfl) fun x y => by kernel_rfl
noncomputable def u_ref13_Wants : Uf := ⟨33, 29, Try.f33, [.val (.agg (.pair (.int .i64) (.pair (.int .i64) (.pair (.list (.agg (.pair (.int .i64) .str))) (.pair (.list (.agg (.pair (.int .i64) .str))) (.pair (.list (.agg (.pair (.int .i64) (.pair (.int .i64) (.pair (.int .i64) (.pair .str (.int .i64))))))) (.agg (.pair (.int .i64) (.int .i64)))))))))], [],
⟨[(2, .ptr 600002 0), (3, .val .bool)], [(600002, .box 45 (.val (.pair (.int .i64) (.int .i64))))]⟩, [],
[],
[(4, .cut [] [(.normal, ⟨[(1, .ptr 600001 0), (2, .ptr 600002 0), (4, .val (.int .i64))], [(600001, .box 29 (.val (.pair (.int .i64) (.pair (.int .i64) (.pair (.list (.agg (.pair (.int .i64) .str))) (.pair (.list (.agg (.pair (.int .i64) .str))) (.pair (.list (.agg (.pair (.int .i64) (.pair (.int .i64) (.pair (.int .i64) (.pair .str (.int .i64))))))) (.agg (.pair (.int .i64) (.int .i64)))))))))), (600002, .box 45 (.val (.pair (.int .i64) (.int .i64))))]⟩)])], fun y => (.tup [valW (.agg (.pair (.int .i64) (.int .i64))) y.2, valW .bool y.1], [], [])⟩
noncomputable def V_ref13_Wants (w_ref13_First : List (Int × List UInt8) → Option (Int)) (N : Nat) (x : Int × Int × (List (Int × List UInt8)) × (List (Int × List UInt8)) × (List (Int × Int × Int × (List UInt8) × Int)) × Int × Int) : Option (Bool × Int × Int) :=
  obind (cnd (decide ((0:Int) < (↑(List.length x.2.2.2.1) : Int))) (obind (w_ref13_First x.2.2.2.1) fun b => some (wr .i64 (b - (1:Int)), x, (0:Int),
    (0:Int))) (some (x.2.1, x, (0:Int), (0:Int)))) fun (b : Int × (Int × Int × List (Int × List UInt8) × List (Int × List UInt8) × List (Int × Int × Int
    × List UInt8 × Int) × Int × Int) × Int × Int) => cnd (decide (b.2.1.1 = (0:Int))) (some (false, (0:Int), (0:Int))) (cnd (decide (b.1 < b.2.1.1))
    (some (false, (0:Int), (0:Int))) (some (true, b.2.1.1, b.1)))
theorem q_ref13_Wants : ∀ w_ref13_First N x, u_ref13_Wants.F L0 P0 (orcOf [u_ref13_First.con w_ref13_First]) N x = V_ref13_Wants w_ref13_First N x := by intros; kernel_rfl
noncomputable def W_ref13_Wants (N : Nat) := V_ref13_Wants (W_ref13_First N) N
theorem con_ref13_Wants_ok (N : Nat) : (u_ref13_Wants.con (W_ref13_Wants N)).ok P0 := Uf.ok mixed (q_ref13_Wants (W_ref13_First N) N) ⟨con_ref13_First_ok N, trivial⟩ Try.func33 (by kernel_rfl) fun x y => by kernel_rfl
noncomputable def u_ref1_Now : Uf := ⟨34, 14, Try.f34, [.val (.agg (.pair (.int .i64) (.int .i64))), .val (.int .i64)], [],
⟨[(4, .val .bool)], []⟩, [],
[],
[], fun y => (valW .bool y, [], [])⟩
noncomputable def V_ref1_Now (N : Nat) (x : (Int × Int) × Int) : Option (Bool) :=
  cnd (decide (x.1.1 = (0:Int))) (some true) (some (decide (x.1.2 ≤ x.2)))
theorem q_ref1_Now : ∀ N x, u_ref1_Now.F L0 P0 (orcOf []) N x = V_ref1_Now N x := by intros; kernel_rfl
noncomputable def W_ref1_Now (N : Nat) := V_ref1_Now N
theorem con_ref1_Now_ok (N : Nat) : (u_ref1_Now.con (W_ref1_Now N)).ok P0 := Uf.ok mixed (q_ref1_Now N) trivial Try.func34 (by kernel_rfl) fun x y => by kernel_rfl
noncomputable def u_ref1_Tried : Uf := ⟨35, 26, Try.f35, [.val (.agg (.pair (.int .i64) (.int .i64))), .val (.int .i64)], [],
⟨[(4, .ptr 600004 0)], [(600004, .box 27 (.val (.pair (.int .i64) (.int .i64))))]⟩, [],
[(3, .loop [] ⟨[(2, .ptr 600002 0), (4, .ptr 600004 0), (5, .val (.int .i64)), (6, .val (.int .i64))], [(600002, .box 27 (.val (.pair (.int .i64) (.int .i64)))), (600004, .box 27 (.val (.pair (.int .i64) (.int .i64))))]⟩ [(.exit 0, ⟨[(2, .ptr 600002 0), (4, .ptr 600004 0), (5, .val (.int .i64))], [(600002, .box 27 (.val (.pair (.int .i64) (.int .i64)))), (600004, .box 27 (.val (.pair (.int .i64) (.int .i64))))]⟩)])],
[], fun y => (valW (.agg (.pair (.int .i64) (.int .i64))) y, [], [])⟩
noncomputable def V_ref1_Tried (N : Nat) (x : (Int × Int) × Int) : Option (Int × Int) :=
  obind (loopN N (fun (v : Int × Int × (Int × Int) × Int × Int) => cnd (decide (v.2.1 < v.2.2.1.1)) (cnd (decide (v.2.1 < (3:Int))) (some (Sum.inl (wr
    .i64 (v.1 * (2:Int)), wr .i64 (v.2.1 + (1:Int)), v.2.2))) (some (Sum.inr (v.1, v.2.2)))) (some (Sum.inr (v.1, v.2.2)))) ((2:Int), (0:Int), x.1,
    (0:Int), (0:Int))) fun (b : Int × (Int × Int) × Int × Int) => some (wr .i64 (b.2.1.1 + (1:Int)), wr .i64 (x.2 + b.1))
theorem q_ref1_Tried : ∀ N x, u_ref1_Tried.F L0 P0 (orcOf []) N x = V_ref1_Tried N x := by intros; kernel_rfl
noncomputable def W_ref1_Tried (N : Nat) := V_ref1_Tried N
theorem con_ref1_Tried_ok (N : Nat) : (u_ref1_Tried.con (W_ref1_Tried N)).ok P0 := Uf.ok mixed (q_ref1_Tried N) trivial Try.func35 (by kernel_rfl) fun x y => by kernel_rfl
noncomputable def u_ref13_Tick : Uf := ⟨16, 50, Try.f16, [.val (.agg (.pair (.int .i64) (.pair (.int .i64) (.pair (.list (.agg (.pair (.int .i64) .str))) (.pair (.list (.agg (.pair (.int .i64) .str))) (.pair (.list (.agg (.pair (.int .i64) (.pair (.int .i64) (.pair (.int .i64) (.pair .str (.int .i64))))))) (.agg (.pair (.int .i64) (.int .i64))))))))), .val (.int .i64)], [],
⟨[(4, .ptr 600004 0), (5, .ptr 600005 0), (6, .val .bool)], [(600004, .box 29 (.val (.pair (.int .i64) (.pair (.int .i64) (.pair (.list (.agg (.pair (.int .i64) .str))) (.pair (.list (.agg (.pair (.int .i64) .str))) (.pair (.list (.agg (.pair (.int .i64) (.pair (.int .i64) (.pair (.int .i64) (.pair .str (.int .i64))))))) (.agg (.pair (.int .i64) (.int .i64)))))))))), (600005, .box 45 (.val (.pair (.int .i64) (.int .i64))))]⟩, [],
[],
[], fun y => (.tup [valW (.agg (.pair (.int .i64) (.pair (.int .i64) (.pair (.list (.agg (.pair (.int .i64) .str))) (.pair (.list (.agg (.pair (.int .i64) .str))) (.pair (.list (.agg (.pair (.int .i64) (.pair (.int .i64) (.pair (.int .i64) (.pair .str (.int .i64))))))) (.agg (.pair (.int .i64) (.int .i64))))))))) y.2.1, valW (.agg (.pair (.int .i64) (.int .i64))) y.2.2, valW .bool y.1], [], [])⟩
noncomputable def V_ref13_Tick (w_ref13_Wants : Int × Int × (List (Int × List UInt8)) × (List (Int × List UInt8)) × (List (Int × Int × Int × (List UInt8) × Int)) × Int × Int → Option (Bool × Int × Int)) (w_ref1_Now : (Int × Int) × Int → Option (Bool)) (w_ref13_Skips : (Int × Int × (List (Int × List UInt8)) × (List (Int × List UInt8)) × (List (Int × Int × Int × (List UInt8) × Int)) × Int × Int) × Int × Int → Option ((List (Int × Int)) × Int × Int × (List (Int × List UInt8)) × (List (Int × List UInt8)) × (List (Int × Int × Int × (List UInt8) × Int)) × Int × Int)) (w_ref13_Goes : Int × Int × (List (Int × List UInt8)) × (List (Int × List UInt8)) × (List (Int × Int × Int × (List UInt8) × Int)) × Int × Int → Option ((List (Int × List UInt8)) × Int × Int × (List (Int × List UInt8)) × (List (Int × List UInt8)) × (List (Int × Int × Int × (List UInt8) × Int)) × Int × Int)) (w_ref1_Tried : (Int × Int) × Int → Option (Int × Int)) (N : Nat) (x : (Int × Int × (List (Int × List UInt8)) × (List (Int × List UInt8)) × (List (Int × Int × Int × (List UInt8) × Int)) × Int × Int) × Int) : Option (Bool × (Int × Int × (List (Int × List UInt8)) × (List (Int × List UInt8)) × (List (Int × Int × Int × (List UInt8) × Int)) × Int × Int) × Int × Int) :=
  obind (w_ref13_Wants x.1) fun b => cnd (!b.1) (some (false, x.1, (0:Int), (0:Int))) (obind (w_ref1_Now (x.1.2.2.2.2.2, x.2)) fun b_1 => cnd (!b_1)
    (some (false, x.1, (0:Int), (0:Int))) (cnd (decide ((3:Int) ≤ x.1.2.2.2.2.2.1)) (obind (w_ref13_Skips (x.1, b.2.2, (2:Int))) fun b => obind
    (w_ref13_Goes b.2) fun b => some (false, b.2, (0:Int), (0:Int))) (obind (w_ref1_Tried (x.1.2.2.2.2.2, x.2)) fun b_2 => some (true, (x.1.1,
    x.1.2.1, x.1.2.2.1, x.1.2.2.2.1, x.1.2.2.2.2.1, b_2), b.2))))
theorem q_ref13_Tick : ∀ w_ref13_Wants w_ref1_Now w_ref13_Skips w_ref13_Goes w_ref1_Tried N x, u_ref13_Tick.F L0 P0 (orcOf [u_ref13_Wants.con w_ref13_Wants, u_ref1_Now.con w_ref1_Now, u_ref13_Skips.con w_ref13_Skips, u_ref13_Goes.con w_ref13_Goes, u_ref1_Tried.con w_ref1_Tried]) N x = V_ref13_Tick w_ref13_Wants w_ref1_Now w_ref13_Skips w_ref13_Goes w_ref1_Tried N x := by intros; kernel_rfl
noncomputable def W_ref13_Tick (N : Nat) := V_ref13_Tick (W_ref13_Wants N) (W_ref1_Now N) (W_ref13_Skips N) (W_ref13_Goes N) (W_ref1_Tried N) N
theorem con_ref13_Tick_ok (N : Nat) : (u_ref13_Tick.con (W_ref13_Tick N)).ok P0 := Uf.ok mixed (q_ref13_Tick (W_ref13_Wants N) (W_ref1_Now N) (W_ref13_Skips N) (W_ref13_Goes N) (W_ref1_Tried N) N) ⟨con_ref13_Wants_ok N, con_ref1_Now_ok N, con_ref13_Skips_ok N, con_ref13_Goes_ok N, con_ref1_Tried_ok N, trivial⟩ Try.func16 (by kernel_rfl) fun x y => by kernel_rfl
noncomputable def u_ref13_Get : Uf := ⟨52, 25, Try.f52, [.val (.list (.agg (.pair (.int .i64) .str))), .val (.int .i64)], [],
⟨[(4, .val .str), (5, .val .bool)], []⟩, [],
[(2, .loop [] ⟨[(6, .val (.int .i64))], []⟩ [(.exit 0, ⟨[], []⟩), (.ret, ⟨[(4, .val .str), (5, .val .bool)], []⟩)])],
[], fun y => (.tup [valW .str y.1, valW .bool y.2], [], [])⟩
noncomputable def V_ref13_Get (N : Nat) (x : (List (Int × List UInt8)) × Int) : Option ((List UInt8) × Bool) :=
  obind (loopN N (fun (v : Int) => cnd (decide (v < (↑(List.length x.1) : Int))) (cnd (decide ((0:Int) ≤ v) && decide (v < (↑(List.length x.1) : Int)))
    (cnd (decide (Prod.fst (List.getD x.1 (Int.toNat v) ((0:Int), [])) = x.2)) (cnd (decide ((0:Int) ≤ v) && decide (v < (↑(List.length x.1) : Int)))
    (some (Sum.inr (Sum.inr (Prod.snd (List.getD x.1 (Int.toNat v) ((0:Int), [])), true)))) none) (some (Sum.inl (wr .i64 (v + (1:Int)))))) none) (some
    (Sum.inr (Sum.inl ())))) (Int.ofNat (0:Nat))) fun (b : PUnit ⊕ List UInt8 × Bool) => selim (fun (b : PUnit) => some ([], false)) (fun (c : List
    UInt8 × Bool) => some c) b
theorem q_ref13_Get : ∀ N x, u_ref13_Get.F L0 P0 (orcOf []) N x = V_ref13_Get N x := by intros; kernel_rfl
noncomputable def W_ref13_Get (N : Nat) := V_ref13_Get N
theorem con_ref13_Get_ok (N : Nat) : (u_ref13_Get.con (W_ref13_Get N)).ok P0 := Uf.ok mixed (q_ref13_Get N) trivial Try.func52 (by kernel_rfl) fun x y => by kernel_rfl
noncomputable def u_ref13_PutWin : Uf := ⟨36, 71, Try.f36, [.val (.list (.agg (.pair (.int .i64) .str))), .val (.int .i64), .val (.agg (.pair (.int .i64) .str))], [],
⟨[(6, .val (.list (.agg (.pair (.int .i64) .str)))), (7, .val .bool)], []⟩, [],
[(7, .loop [] ⟨[(5, .ptr 600005 0), (10, .acc 700010), (11, .val .bool), (12, .val (.int .i64))], [(600005, .box 43 (.val (.pair (.int .i64) .str))), (700010, .nrow 43 (.agg (.pair (.int .i64) .str)) true true)]⟩ [(.exit 0, ⟨[(5, .ptr 600005 0), (10, .acc 700010), (11, .val .bool)], [(600005, .box 43 (.val (.pair (.int .i64) .str))), (700010, .nrow 43 (.agg (.pair (.int .i64) .str)) true true)]⟩)])],
[(11, .cut [] [(.normal, ⟨[(5, .ptr 600005 0), (10, .acc 700010), (11, .val .bool)], [(600005, .box 43 (.val (.pair (.int .i64) .str))), (700010, .nrow 43 (.agg (.pair (.int .i64) .str)) true true)]⟩)])], fun y => (.tup [valW (.list (.agg (.pair (.int .i64) .str))) y.1, valW .bool y.2], [], [])⟩
noncomputable def V_ref13_PutWin (w_ref13_Get : (List (Int × List UInt8)) × Int → Option ((List UInt8) × Bool)) (N : Nat) (x : (List (Int × List UInt8)) × Int × Int × List UInt8) : Option ((List (Int × List UInt8)) × Bool) :=
  obind (w_ref13_Get (x.1, x.2.2.1)) fun b => cnd (decide (x.2.2.1 < x.2.1)) (some (x.1, false)) (cnd (decide ((8:Int) ≤ wr .i64 (x.2.2.1 - x.2.1)))
    (some (x.1, false)) (cnd b.2 (some (x.1, false)) (obind (loopN N (fun (v : Bool × Int × (Int × List UInt8) × List (Int × List UInt8)) => cnd (decide
    (v.2.1 < (↑(List.length x.1) : Int))) (obind (cnd (!v.1) (cnd (decide ((0:Int) ≤ v.2.1) && decide (v.2.1 < (↑(List.length x.1) : Int))) (cnd (decide
    (v.2.2.1.1 < Prod.fst (List.getD x.1 (Int.toNat v.2.1) ((0:Int), [])))) (cnd (decide ((List.length v.2.2.2 + List.length [v.2.2.1]) * (24:Nat) ≤
    (140737488355328:Nat))) (some (true, v.2.2.1, v.2.2.2 ++ [v.2.2.1])) none) (some (v.1, v.2.2))) none) (some (v.1, v.2.2))) fun (b : Bool × (Int ×
    List UInt8) × List (Int × List UInt8)) => cnd (decide ((0:Int) ≤ v.2.1) && decide (v.2.1 < (↑(List.length x.1) : Int))) (cnd (decide ((List.length
    b.2.2 + (1:Nat)) * (24:Nat) ≤ (140737488355328:Nat))) (some (Sum.inl (b.1, wr .i64 (v.2.1 + (1:Int)), b.2.1, b.2.2 ++ [(Prod.fst (List.getD x.1
    (Int.toNat v.2.1) ((0:Int), [])), Prod.snd (List.getD x.1 (Int.toNat v.2.1) ((0:Int), [])))]))) none) none) (some (Sum.inr (v.1, v.2.2)))) (false,
    (0:Int), x.2.2, [])) fun (b : Bool × (Int × List UInt8) × List (Int × List UInt8)) => cnd (!b.1) (cnd (decide ((List.length b.2.2 + List.length
    [b.2.1]) * (24:Nat) ≤ (140737488355328:Nat))) (some (b.2.2 ++ [b.2.1], true)) none) (some (b.2.2, true)))))
theorem q_ref13_PutWin : ∀ w_ref13_Get N x, u_ref13_PutWin.F L0 P0 (orcOf [u_ref13_Get.con w_ref13_Get]) N x = V_ref13_PutWin w_ref13_Get N x := by intros; kernel_rfl
noncomputable def W_ref13_PutWin (N : Nat) := V_ref13_PutWin (W_ref13_Get N) N
theorem con_ref13_PutWin_ok (N : Nat) : (u_ref13_PutWin.con (W_ref13_PutWin N)).ok P0 := Uf.ok mixed (q_ref13_PutWin (W_ref13_Get N) N) ⟨con_ref13_Get_ok N, trivial⟩ Try.func36 (by kernel_rfl) fun x y => by kernel_rfl
noncomputable def u_ref13_Comes : Uf := ⟨17, 45, Try.f17, [.val (.agg (.pair (.int .i64) (.pair (.int .i64) (.pair (.list (.agg (.pair (.int .i64) .str))) (.pair (.list (.agg (.pair (.int .i64) .str))) (.pair (.list (.agg (.pair (.int .i64) (.pair (.int .i64) (.pair (.int .i64) (.pair .str (.int .i64))))))) (.agg (.pair (.int .i64) (.int .i64))))))))), .val (.agg (.pair (.int .i64) .str))], [],
⟨[(4, .ptr 600004 0)], [(600004, .box 29 (.val (.pair (.int .i64) (.pair (.int .i64) (.pair (.list (.agg (.pair (.int .i64) .str))) (.pair (.list (.agg (.pair (.int .i64) .str))) (.pair (.list (.agg (.pair (.int .i64) (.pair (.int .i64) (.pair (.int .i64) (.pair .str (.int .i64))))))) (.agg (.pair (.int .i64) (.int .i64))))))))))]⟩, [],
[],
[(1000001, .reg [(8, [], ⟨[(2, .ptr 600002 0), (3, .ptr 600003 0), (4, .ptr 600004 0), (12, .val .bool)], [(600002, .box 29 (.val (.pair (.int .i64) (.pair (.int .i64) (.pair (.list (.agg (.pair (.int .i64) .str))) (.pair (.list (.agg (.pair (.int .i64) .str))) (.pair (.list (.agg (.pair (.int .i64) (.pair (.int .i64) (.pair (.int .i64) (.pair .str (.int .i64))))))) (.agg (.pair (.int .i64) (.int .i64)))))))))), (600003, .box 43 (.val (.pair (.int .i64) .str))), (600004, .box 29 (.val (.pair (.int .i64) (.pair (.int .i64) (.pair (.list (.agg (.pair (.int .i64) .str))) (.pair (.list (.agg (.pair (.int .i64) .str))) (.pair (.list (.agg (.pair (.int .i64) (.pair (.int .i64) (.pair (.int .i64) (.pair .str (.int .i64))))))) (.agg (.pair (.int .i64) (.int .i64))))))))))]⟩), (5, [], ⟨[(2, .ptr 600002 0), (3, .ptr 600003 0), (4, .ptr 600004 0), (17, .val .bool)], [(600002, .box 29 (.val (.pair (.int .i64) (.pair (.int .i64) (.pair (.list (.agg (.pair (.int .i64) .str))) (.pair (.list (.agg (.pair (.int .i64) .str))) (.pair (.list (.agg (.pair (.int .i64) (.pair (.int .i64) (.pair (.int .i64) (.pair .str (.int .i64))))))) (.agg (.pair (.int .i64) (.int .i64)))))))))), (600003, .box 43 (.val (.pair (.int .i64) .str))), (600004, .box 29 (.val (.pair (.int .i64) (.pair (.int .i64) (.pair (.list (.agg (.pair (.int .i64) .str))) (.pair (.list (.agg (.pair (.int .i64) .str))) (.pair (.list (.agg (.pair (.int .i64) (.pair (.int .i64) (.pair (.int .i64) (.pair .str (.int .i64))))))) (.agg (.pair (.int .i64) (.int .i64))))))))))]⟩)])], fun y => (valW (.agg (.pair (.int .i64) (.pair (.int .i64) (.pair (.list (.agg (.pair (.int .i64) .str))) (.pair (.list (.agg (.pair (.int .i64) .str))) (.pair (.list (.agg (.pair (.int .i64) (.pair (.int .i64) (.pair (.int .i64) (.pair .str (.int .i64))))))) (.agg (.pair (.int .i64) (.int .i64))))))))) y, [], [])⟩
noncomputable def V_ref13_Comes (w_ref13_Knows : (Int × Int × (List (Int × List UInt8)) × (List (Int × List UInt8)) × (List (Int × Int × Int × (List UInt8) × Int)) × Int × Int) × Int → Option (Int × Int × (List (Int × List UInt8)) × (List (Int × List UInt8)) × (List (Int × Int × Int × (List UInt8) × Int)) × Int × Int)) (w_ref13_PutWin : (List (Int × List UInt8)) × Int × Int × List UInt8 → Option ((List (Int × List UInt8)) × Bool)) (w_ref13_Goes : Int × Int × (List (Int × List UInt8)) × (List (Int × List UInt8)) × (List (Int × Int × Int × (List UInt8) × Int)) × Int × Int → Option ((List (Int × List UInt8)) × Int × Int × (List (Int × List UInt8)) × (List (Int × List UInt8)) × (List (Int × Int × Int × (List UInt8) × Int)) × Int × Int)) (N : Nat) (x : (Int × Int × (List (Int × List UInt8)) × (List (Int × List UInt8)) × (List (Int × Int × Int × (List UInt8) × Int)) × Int × Int) × Int × List UInt8) : Option (Int × Int × (List (Int × List UInt8)) × (List (Int × List UInt8)) × (List (Int × Int × Int × (List UInt8) × Int)) × Int × Int) :=
  obind (cnd (decide (x.1.1 = (0:Int))) (some (true, x.1, x.2, (0:Int), (0:Int), [], [], [], (0:Int), (0:Int))) (some (decide (x.2.1 < (1:Int)), x.1,
    x.2, (0:Int), (0:Int), [], [], [], (0:Int), (0:Int)))) fun (b : Bool × (Int × Int × List (Int × List UInt8) × List (Int × List UInt8) × List (Int ×
    Int × Int × List UInt8 × Int) × Int × Int) × (Int × List UInt8) × Int × Int × List (Int × List UInt8) × List (Int × List UInt8) × List (Int × Int ×
    Int × List UInt8 × Int) × Int × Int) => obind (cnd b.1 (some (true, b.2)) (some (decide ((1000000:Int) < b.2.2.1.1), b.2))) fun (b : Bool × (Int ×
    Int × List (Int × List UInt8) × List (Int × List UInt8) × List (Int × Int × Int × List UInt8 × Int) × Int × Int) × (Int × List UInt8) × Int × Int ×
    List (Int × List UInt8) × List (Int × List UInt8) × List (Int × Int × Int × List UInt8 × Int) × Int × Int) => cnd b.1 (some b.2.1) (cnd (decide
    ((12:Int) < (↑(List.length b.2.2.1.2) : Int))) (some b.2.1) (obind (w_ref13_Knows (b.2.1, b.2.2.1.1)) fun b_1 => obind (w_ref13_PutWin
    (b_1.2.2.2.1, b_1.1, b.2.2.1)) fun b => obind (w_ref13_Goes (b_1.1, b_1.2.1, b_1.2.2.1, b.1, b_1.2.2.2.2)) fun b => some b.2))
theorem q_ref13_Comes : ∀ w_ref13_Knows w_ref13_PutWin w_ref13_Goes N x, u_ref13_Comes.F L0 P0 (orcOf [u_ref13_Knows.con w_ref13_Knows, u_ref13_PutWin.con w_ref13_PutWin, u_ref13_Goes.con w_ref13_Goes]) N x = V_ref13_Comes w_ref13_Knows w_ref13_PutWin w_ref13_Goes N x := by intros; kernel_rfl
noncomputable def W_ref13_Comes (N : Nat) := V_ref13_Comes (W_ref13_Knows N) (W_ref13_PutWin N) (W_ref13_Goes N) N
theorem con_ref13_Comes_ok (N : Nat) : (u_ref13_Comes.con (W_ref13_Comes N)).ok P0 := Uf.ok mixed (q_ref13_Comes (W_ref13_Knows N) (W_ref13_PutWin N) (W_ref13_Goes N) N) ⟨con_ref13_Knows_ok N, con_ref13_PutWin_ok N, con_ref13_Goes_ok N, trivial⟩ Try.func17 (by kernel_rfl) fun x y => by kernel_rfl
noncomputable def u_law18_deed : Uf := ⟨5, 110, Try.f5, [.val (.agg (.pair (.int .i64) (.pair (.int .i64) (.pair (.list (.agg (.pair (.int .i64) .str))) (.pair (.list (.agg (.pair (.int .i64) .str))) (.pair (.list (.agg (.pair (.int .i64) (.pair (.int .i64) (.pair (.int .i64) (.pair .str (.int .i64))))))) (.agg (.pair (.int .i64) (.int .i64))))))))), .val (.agg (.pair (.int .i64) (.pair (.int .i64) (.pair (.list (.agg (.pair (.int .i64) .str))) (.pair (.list (.agg (.pair (.int .i64) .str))) (.pair (.list (.agg (.pair (.int .i64) (.pair (.int .i64) (.pair (.int .i64) (.pair .str (.int .i64))))))) (.agg (.pair (.int .i64) (.int .i64))))))))), .val (.agg (.pair (.int .u8) (.pair (.int .u8) (.int .u8)))), .val (.int .i64)], [],
⟨[(8, .ptr 600008 0), (9, .ptr 600009 0), (10, .val .bool)], [(600008, .box 29 (.val (.pair (.int .i64) (.pair (.int .i64) (.pair (.list (.agg (.pair (.int .i64) .str))) (.pair (.list (.agg (.pair (.int .i64) .str))) (.pair (.list (.agg (.pair (.int .i64) (.pair (.int .i64) (.pair (.int .i64) (.pair .str (.int .i64))))))) (.agg (.pair (.int .i64) (.int .i64)))))))))), (600009, .box 29 (.val (.pair (.int .i64) (.pair (.int .i64) (.pair (.list (.agg (.pair (.int .i64) .str))) (.pair (.list (.agg (.pair (.int .i64) .str))) (.pair (.list (.agg (.pair (.int .i64) (.pair (.int .i64) (.pair (.int .i64) (.pair .str (.int .i64))))))) (.agg (.pair (.int .i64) (.int .i64))))))))))]⟩, [],
[],
[(14, .cut [] [(.normal, ⟨[(4, .ptr 600004 0), (5, .ptr 600005 0), (8, .ptr 600008 0), (9, .ptr 600009 0), (74, .val .bool)], [(600004, .box 29 (.val (.pair (.int .i64) (.pair (.int .i64) (.pair (.list (.agg (.pair (.int .i64) .str))) (.pair (.list (.agg (.pair (.int .i64) .str))) (.pair (.list (.agg (.pair (.int .i64) (.pair (.int .i64) (.pair (.int .i64) (.pair .str (.int .i64))))))) (.agg (.pair (.int .i64) (.int .i64)))))))))), (600005, .box 29 (.val (.pair (.int .i64) (.pair (.int .i64) (.pair (.list (.agg (.pair (.int .i64) .str))) (.pair (.list (.agg (.pair (.int .i64) .str))) (.pair (.list (.agg (.pair (.int .i64) (.pair (.int .i64) (.pair (.int .i64) (.pair .str (.int .i64))))))) (.agg (.pair (.int .i64) (.int .i64)))))))))), (600008, .box 29 (.val (.pair (.int .i64) (.pair (.int .i64) (.pair (.list (.agg (.pair (.int .i64) .str))) (.pair (.list (.agg (.pair (.int .i64) .str))) (.pair (.list (.agg (.pair (.int .i64) (.pair (.int .i64) (.pair (.int .i64) (.pair .str (.int .i64))))))) (.agg (.pair (.int .i64) (.int .i64)))))))))), (600009, .box 29 (.val (.pair (.int .i64) (.pair (.int .i64) (.pair (.list (.agg (.pair (.int .i64) .str))) (.pair (.list (.agg (.pair (.int .i64) .str))) (.pair (.list (.agg (.pair (.int .i64) (.pair (.int .i64) (.pair (.int .i64) (.pair .str (.int .i64))))))) (.agg (.pair (.int .i64) (.int .i64))))))))))]⟩)])], fun y => (.tup [valW (.agg (.pair (.int .i64) (.pair (.int .i64) (.pair (.list (.agg (.pair (.int .i64) .str))) (.pair (.list (.agg (.pair (.int .i64) .str))) (.pair (.list (.agg (.pair (.int .i64) (.pair (.int .i64) (.pair (.int .i64) (.pair .str (.int .i64))))))) (.agg (.pair (.int .i64) (.int .i64))))))))) y.2.1, valW (.agg (.pair (.int .i64) (.pair (.int .i64) (.pair (.list (.agg (.pair (.int .i64) .str))) (.pair (.list (.agg (.pair (.int .i64) .str))) (.pair (.list (.agg (.pair (.int .i64) (.pair (.int .i64) (.pair (.int .i64) (.pair .str (.int .i64))))))) (.agg (.pair (.int .i64) (.int .i64))))))))) y.2.2, valW .bool y.1], [], [])⟩
noncomputable def V_law18_deed (w_feed_Begin : (Int × Int × (List (Int × List UInt8)) × (List (Int × List UInt8)) × (List (Int × Int × Int × (List UInt8) × Int)) × Int × Int) × Int → Option (Int × Int × (List (Int × List UInt8)) × (List (Int × List UInt8)) × (List (Int × Int × Int × (List UInt8) × Int)) × Int × Int)) (w_ref13_Begin : (Int × Int × (List (Int × List UInt8)) × (List (Int × List UInt8)) × (List (Int × Int × Int × (List UInt8) × Int)) × Int × Int) × Int → Option (Int × Int × (List (Int × List UInt8)) × (List (Int × List UInt8)) × (List (Int × Int × Int × (List UInt8) × Int)) × Int × Int)) (w_feed_Notes : (Int × Int × (List (Int × List UInt8)) × (List (Int × List UInt8)) × (List (Int × Int × Int × (List UInt8) × Int)) × Int × Int) × Int × Int → Option (Int × Int × (List (Int × List UInt8)) × (List (Int × List UInt8)) × (List (Int × Int × Int × (List UInt8) × Int)) × Int × Int)) (w_ref13_Notes : (Int × Int × (List (Int × List UInt8)) × (List (Int × List UInt8)) × (List (Int × Int × Int × (List UInt8) × Int)) × Int × Int) × Int × Int → Option (Int × Int × (List (Int × List UInt8)) × (List (Int × List UInt8)) × (List (Int × Int × Int × (List UInt8) × Int)) × Int × Int)) (w_feed_Knows : (Int × Int × (List (Int × List UInt8)) × (List (Int × List UInt8)) × (List (Int × Int × Int × (List UInt8) × Int)) × Int × Int) × Int → Option (Int × Int × (List (Int × List UInt8)) × (List (Int × List UInt8)) × (List (Int × Int × Int × (List UInt8) × Int)) × Int × Int)) (w_ref13_Knows : (Int × Int × (List (Int × List UInt8)) × (List (Int × List UInt8)) × (List (Int × Int × Int × (List UInt8) × Int)) × Int × Int) × Int → Option (Int × Int × (List (Int × List UInt8)) × (List (Int × List UInt8)) × (List (Int × Int × Int × (List UInt8) × Int)) × Int × Int)) (w_feed_Tick : (Int × Int × (List (Int × List UInt8)) × (List (Int × List UInt8)) × (List (Int × Int × Int × (List UInt8) × Int)) × Int × Int) × Int → Option (Bool × (Int × Int × (List (Int × List UInt8)) × (List (Int × List UInt8)) × (List (Int × Int × Int × (List UInt8) × Int)) × Int × Int) × Int × Int)) (w_ref13_Tick : (Int × Int × (List (Int × List UInt8)) × (List (Int × List UInt8)) × (List (Int × Int × Int × (List UInt8) × Int)) × Int × Int) × Int → Option (Bool × (Int × Int × (List (Int × List UInt8)) × (List (Int × List UInt8)) × (List (Int × Int × Int × (List UInt8) × Int)) × Int × Int) × Int × Int)) (w_feed_Comes : (Int × Int × (List (Int × List UInt8)) × (List (Int × List UInt8)) × (List (Int × Int × Int × (List UInt8) × Int)) × Int × Int) × Int × List UInt8 → Option (Int × Int × (List (Int × List UInt8)) × (List (Int × List UInt8)) × (List (Int × Int × Int × (List UInt8) × Int)) × Int × Int)) (w_ref13_Comes : (Int × Int × (List (Int × List UInt8)) × (List (Int × List UInt8)) × (List (Int × Int × Int × (List UInt8) × Int)) × Int × Int) × Int × List UInt8 → Option (Int × Int × (List (Int × List UInt8)) × (List (Int × List UInt8)) × (List (Int × Int × Int × (List UInt8) × Int)) × Int × Int)) (N : Nat) (x : (Int × Int × (List (Int × List UInt8)) × (List (Int × List UInt8)) × (List (Int × Int × Int × (List UInt8) × Int)) × Int × Int) × (Int × Int × (List (Int × List UInt8)) × (List (Int × List UInt8)) × (List (Int × Int × Int × (List UInt8) × Int)) × Int × Int) × (Int × Int × Int) × Int) : Option (Bool × (Int × Int × (List (Int × List UInt8)) × (List (Int × List UInt8)) × (List (Int × Int × Int × (List UInt8) × Int)) × Int × Int) × Int × Int × (List (Int × List UInt8)) × (List (Int × List UInt8)) × (List (Int × Int × Int × (List UInt8) × Int)) × Int × Int) :=
  cnd (decide ((0:Int) ≤ Int.tmod x.2.2.1.2.2 (5:Int))) (cnd (decide (Int.tmod x.2.2.1.2.2 (5:Int) < (↑(5:Nat) : Int))) (cnd (decide (Int.tmod x.2.2.1.1
    (8:Int) = (0:Int))) (obind (w_feed_Begin (x.1, max (1:Int) (wr .i64 (wr .i64 (x.2.1.1 - (2:Int)) + wr .i64 (Int.tmod x.2.2.1.2.1 (12:Int)))))) fun
    b => obind (w_ref13_Begin (x.2.1, max (1:Int) (wr .i64 (wr .i64 (x.2.1.1 - (2:Int)) + wr .i64 (Int.tmod x.2.2.1.2.1 (12:Int)))))) fun b_1 => some
    (true, b, b_1)) (cnd (decide (Int.tmod x.2.2.1.1 (8:Int) = (1:Int))) (obind (w_feed_Notes (x.1, max (1:Int) (wr .i64 (wr .i64 (x.2.1.1 - (2:Int))
    + wr .i64 (Int.tmod x.2.2.1.2.1 (12:Int)))), wr .i64 (wr .i64 (max (1:Int) (wr .i64 (wr .i64 (x.2.1.1 - (2:Int)) + wr .i64 (Int.tmod x.2.2.1.2.1
    (12:Int)))) + wr .i64 (Int.tmod x.2.2.1.2.2 (6:Int))) - (1:Int)))) fun b => obind (w_ref13_Notes (x.2.1, max (1:Int) (wr .i64 (wr .i64 (x.2.1.1 -
    (2:Int)) + wr .i64 (Int.tmod x.2.2.1.2.1 (12:Int)))), wr .i64 (wr .i64 (max (1:Int) (wr .i64 (wr .i64 (x.2.1.1 - (2:Int)) + wr .i64 (Int.tmod
    x.2.2.1.2.1 (12:Int)))) + wr .i64 (Int.tmod x.2.2.1.2.2 (6:Int))) - (1:Int)))) fun b_1 => some (true, b, b_1)) (cnd (decide (Int.tmod x.2.2.1.1
    (8:Int) = (2:Int))) (obind (w_feed_Knows (x.1, max (1:Int) (wr .i64 (wr .i64 (x.2.1.1 - (2:Int)) + wr .i64 (Int.tmod x.2.2.1.2.1 (12:Int)))))) fun
    b => obind (w_ref13_Knows (x.2.1, max (1:Int) (wr .i64 (wr .i64 (x.2.1.1 - (2:Int)) + wr .i64 (Int.tmod x.2.2.1.2.1 (12:Int)))))) fun b_1 => some
    (true, b, b_1)) (obind (cnd (decide (Int.tmod x.2.2.1.1 (8:Int) = (3:Int))) (some (decide (Int.tmod x.2.2.1.1 (8:Int) = (3:Int)), x.1, x.2.1,
    ((0:Int), (0:Int), [], [], [], (0:Int), (0:Int)), (0:Int), (0:Int), [], [], [], (0:Int), (0:Int))) (some (decide (Int.tmod x.2.2.1.1 (8:Int) =
    (4:Int)), x.1, x.2.1, ((0:Int), (0:Int), [], [], [], (0:Int), (0:Int)), (0:Int), (0:Int), [], [], [], (0:Int), (0:Int)))) fun (b : Bool × (Int × Int
    × List (Int × List UInt8) × List (Int × List UInt8) × List (Int × Int × Int × List UInt8 × Int) × Int × Int) × (Int × Int × List (Int × List UInt8)
    × List (Int × List UInt8) × List (Int × Int × Int × List UInt8 × Int) × Int × Int) × (Int × Int × List (Int × List UInt8) × List (Int × List UInt8)
    × List (Int × Int × Int × List UInt8 × Int) × Int × Int) × Int × Int × List (Int × List UInt8) × List (Int × List UInt8) × List (Int × Int × Int ×
    List UInt8 × Int) × Int × Int) => cnd b.1 (obind (w_feed_Tick (b.2.1, x.2.2.2)) fun b_1 => obind (w_ref13_Tick (b.2.2.1, x.2.2.2)) fun b => cnd
    (decide (b_1.2.2.1 = b.2.2.1) && decide (b_1.2.2.2 = b.2.2.2)) (some (b_1.1 == b.1, b_1.2.1, b.2.1)) (some (false, b_1.2.1, b.2.1))) (obind
    (w_feed_Comes (b.2.1, max (1:Int) (wr .i64 (wr .i64 (x.2.1.1 - (2:Int)) + wr .i64 (Int.tmod x.2.2.1.2.1 (12:Int)))), List.getD [[], [(97 :
    UInt8)], [(98 : UInt8), (99 : UInt8)], [(104 : UInt8), (101 : UInt8), (108 : UInt8), (108 : UInt8), (111 : UInt8)], [(116 : UInt8), (104 : UInt8),
    (105 : UInt8), (114 : UInt8), (116 : UInt8), (101 : UInt8), (101 : UInt8), (110 : UInt8), (32 : UInt8), (98 : UInt8), (121 : UInt8), (116 : UInt8),
    (101 : UInt8)]] (Int.toNat (Int.tmod x.2.2.1.2.2 (5:Int))) [])) fun b_1 => obind (w_ref13_Comes (b.2.2.1, max (1:Int) (wr .i64 (wr .i64 (x.2.1.1 -
    (2:Int)) + wr .i64 (Int.tmod x.2.2.1.2.1 (12:Int)))), List.getD [[], [(97 : UInt8)], [(98 : UInt8), (99 : UInt8)], [(104 : UInt8), (101 : UInt8),
    (108 : UInt8), (108 : UInt8), (111 : UInt8)], [(116 : UInt8), (104 : UInt8), (105 : UInt8), (114 : UInt8), (116 : UInt8), (101 : UInt8), (101 :
    UInt8), (110 : UInt8), (32 : UInt8), (98 : UInt8), (121 : UInt8), (116 : UInt8), (101 : UInt8)]] (Int.toNat (Int.tmod x.2.2.1.2.2 (5:Int))) [])) fun
    b => some (true, b_1, b)))))) none) none
theorem q_law18_deed : ∀ w_feed_Begin w_ref13_Begin w_feed_Notes w_ref13_Notes w_feed_Knows w_ref13_Knows w_feed_Tick w_ref13_Tick w_feed_Comes w_ref13_Comes N x, u_law18_deed.F L0 P0 (orcOf [u_feed_Begin.con w_feed_Begin, u_ref13_Begin.con w_ref13_Begin, u_feed_Notes.con w_feed_Notes, u_ref13_Notes.con w_ref13_Notes, u_feed_Knows.con w_feed_Knows, u_ref13_Knows.con w_ref13_Knows, u_feed_Tick.con w_feed_Tick, u_ref13_Tick.con w_ref13_Tick, u_feed_Comes.con w_feed_Comes, u_ref13_Comes.con w_ref13_Comes]) N x = V_law18_deed w_feed_Begin w_ref13_Begin w_feed_Notes w_ref13_Notes w_feed_Knows w_ref13_Knows w_feed_Tick w_ref13_Tick w_feed_Comes w_ref13_Comes N x := by intros; kernel_rfl
noncomputable def W_law18_deed (N : Nat) := V_law18_deed (W_feed_Begin N) (W_ref13_Begin N) (W_feed_Notes N) (W_ref13_Notes N) (W_feed_Knows N) (W_ref13_Knows N) (W_feed_Tick N) (W_ref13_Tick N) (W_feed_Comes N) (W_ref13_Comes N) N
theorem con_law18_deed_ok (N : Nat) : (u_law18_deed.con (W_law18_deed N)).ok P0 := Uf.ok mixed (q_law18_deed (W_feed_Begin N) (W_ref13_Begin N) (W_feed_Notes N) (W_ref13_Notes N) (W_feed_Knows N) (W_ref13_Knows N) (W_feed_Tick N) (W_ref13_Tick N) (W_feed_Comes N) (W_ref13_Comes N) N) ⟨con_feed_Begin_ok N, con_ref13_Begin_ok N, con_feed_Notes_ok N, con_ref13_Notes_ok N, con_feed_Knows_ok N, con_ref13_Knows_ok N, con_feed_Tick_ok N, con_ref13_Tick_ok N, con_feed_Comes_ok N, con_ref13_Comes_ok N, trivial⟩ Try.func5 (by kernel_rfl) fun x y => by kernel_rfl
def as_law18_FeedTold : List AS := [.val (.list (.agg (.pair (.int .u8) (.pair (.int .u8) (.int .u8)))))]
def bs_law18_FeedTold : List BS := []
def out_law18_FeedTold (y : Bool) : V × List OK × List OK := (.bs y, [], [])
noncomputable def W_law18_FeedTold (N : Nat) (x : List (Int × Int × Int)) : Option (Bool) :=
  @ite (Option Bool) (W_law18_begun N () = some true ∧ (∀ d ∈ x, 0 ≤ d.1 ∧ 0 ≤ d.2.1 ∧ 0 ≤ d.2.2) ∧ (List.length x ≤ 80 → okRun (W_law18_deed N) x 0 ft0 (fun _ _ => false) (fun _ => false))) (Classical.propDecidable _) (some true) none
noncomputable def conw_law18_FeedTold (w : List (Int × Int × Int) → Option (Bool)) : Con := ⟨3, as_law18_FeedTold, bs_law18_FeedTold, Bool, w, out_law18_FeedTold⟩
noncomputable def con_law18_FeedTold (N : Nat) : Con := conw_law18_FeedTold (W_law18_FeedTold N)
theorem con_law18_FeedTold_ok (N : Nat) : Con.ok P0 (con_law18_FeedTold N) := ⟨⟨Try.f3, Try.func3, by kernel_rfl, by kernel_rfl⟩, fun (x : List (Int × Int × Int)) (r : Bool) (hr : W_law18_FeedTold N x = some r) => by
  unfold W_law18_FeedTold at hr
  split at hr
  · rename_i h
    injection hr with hr; subst hr
    exact told_spec (deed := W_law18_deed N) h.2.1 fun v w hv => told_walk (ftTrue_of ((con_law18_begun_ok N).2 () true h.1)) (bDeed_of fun x r h => (con_law18_deed_ok N).2 x r h) x v w hv h.2.2
  · cases hr⟩
end Go.Proofs.Ytpbiilmphmdmiaa.feedToldX
