/- RingLast: for all arguments the call returns true. The law is brought to a function of Lean's own (W_..) by the machine of the texts beside it, and that is reckoned; no condition. -/
import Derived.Test.YtfiiigeigiaaeaaExtDl
import Derived.Test.YtfiiigeigiaaeaaExtL
import Derived.Test.YtfiiigeigiaaeaaRows
import Derived.WalkKit
import Derived.ProofKit
import Derived.OpenShut
import Derived.ShutString
import Derived.ChangeOld
import Derived.Below
import Derived.Shelf.RegionOpenPlain
import Derived.Deep.RegionLaw
import Derived.Lib.Walk
namespace Go.Proofs.Ytfiiigeigiaaeaa.ringLastX
open Go.Abs Go.RowKit Go.ChangeShapes Go.WideShapes Go.ChangeAt
set_option maxRecDepth 100000
set_option linter.unusedVariables false
set_option linter.unusedSimpArgs false
noncomputable abbrev P0 : Program := Try.prog
noncomputable def bodyOf (fn : Func) : Code := fn.body.getD .skip
def L0 : Lend := fun f => aget [] [(72, [0])] f
def kpL (l : List Bool) : Nat → Bool := fun j => l.getD j true
theorem own : ownKnob Try.prog.godebug = none := by kernel_rfl
theorem laidOut : laidOutB Try.prog = true := by kernel_rfl
theorem mixed : P0.follows .mixedOrders = true := by decide +kernel
theorem progOk_ : progOk P0 = true := by decide +kernel

theorem delU72 : Try.prog.underlying 66 = some (.slice 69) := by kernel_rfl
theorem delE72 : ∃ (inf : TypeInfo) (z : Value), Try.prog.info? 69 = some inf ∧ inf.size = 2 ∧ inf.zero = some z ∧ z.cells.size = 2 ∧ (∀ u ∈ z.cells.toList, u.oneCell' = true) := delE_of (by kernel_rfl)
set_option maxHeartbeats 4000000 in
theorem delW72 {inf : TypeInfo} {z : Value} (hinf : Try.prog.info? 69 = some inf) (hsz : inf.size = 2) (hzz : inf.zero = some z) (hzs : z.cells.size = 2) (hz1 : ∀ u ∈ z.cells.toList, u.oneCell' = true) (w : World) (b i k c : Nat) (arr : Array Value) (tb : Nat) (fz : Nat × Nat) (cs : List Value) (hmem : w.heap[b]? = some (.cells arr tb fz)) (hf : ∀ j, j < arr.size → ¬ (fz.1 ≤ j ∧ j < fz.2))
    (hi : i < k + 1) (hnc : k + 1 ≤ c) (hn : k + 1 ≤ 140737488355328) (hsize : arr.size = c * 2) (hcs : cs = (arr.toList.take ((k + 1) * 2)).drop ((i + 1) * 2)) (h1c : ∀ u ∈ cs, u.oneCell' = true) (A1 A2 : Array Value)
    (hA1 : A1 = (arr.toList.take (i * 2) ++ (cs ++ arr.toList.drop (i * 2 + cs.length))).toArray) (hA2 : A2 = (A1.toList.take (k * 2) ++ (z.cells.toList ++ A1.toList.drop (k * 2 + z.cells.toList.length))).toArray) :
    Calls Try.prog 72 #[.slice (some ⟨b, 0, none⟩) (k + 1) c, .int .i64 (i : Nat), .int .i64 ((i : Int) + 1)] w fun e w' => e = .returned (.slice (some ⟨b, 0, none⟩) k c) ∧ w' = (w.drew.setRow b A1).setRow b A2 := by
  have mixed := mixed
  have hz2 : ¬ ((i : Int) = (i : Int) + 1) := by omega
  have hcl : cs.length = (k - i) * 2 := by rw [hcs]; simp; omega
  have hA1s : A1.size = arr.size := by rw [hA1]; simp [hcl]; omega
  obtain ⟨Ad, hA, hsrc⟩ : ∃ Ad : Addr, (if c = i + 1 then (some ⟨b, 0, none⟩ : Option Addr) else some ⟨b, (i + 1) * 2, none⟩) = some Ad ∧ (∀ (t : Nat) (u : Value), cs[t]? = some u → w.drew.cell? (Ad.add t) = some u) := by
    by_cases h : c = i + 1
    · refine ⟨⟨b, 0, none⟩, by simp [h], fun t u hu => ?_⟩
      have h0 : cs = [] := List.eq_nil_of_length_eq_zero (by rw [hcl, show k - i = 0 by omega, Nat.zero_mul])
      rw [h0] at hu; simp at hu
    · refine ⟨⟨b, (i + 1) * 2, none⟩, by simp [h], fun t u hu => ?_⟩
      rw [hcs, List.getElem?_drop, List.getElem?_take] at hu
      split at hu
      · rw [Addr.add_lit]
        have e : w.drew.cell? ⟨b, (i + 1) * 2 + t, none⟩ = arr[(i + 1) * 2 + t]? := by simp [World.cell?, show w.drew.heap = w.heap from rfl, hmem]
        rw [e]; simpa using hu
      · cases hu
  obtain ⟨W1, hW1⟩ : ∃ W1, W1 = w.drew.setRow b A1 := ⟨_, rfl⟩
  have hm1 : W1.heap[b]? = some (.cells A1 tb fz) := by rw [hW1]; exact setRow_heap w.drew b arr A1 tb fz hmem
  have hap : ∀ ty m' c', m' = k - i → (Builtin.append_ #[66, 66] ty #[.slice (some ⟨b, 0, none⟩) i c, .slice (some Ad) m' c']).run Try.prog w.drew = .ok (.slice (some ⟨b, 0, none⟩) k c) W1 := fun ty m' c' hm => by
    subst hm
    have h := run_appendR (P := Try.prog) delU72 hinf w.drew hmem hf i c ty Ad (k - i) c' cs (by rw [hsz]; exact hcl) hsrc h1c (by omega) (by rw [hsize, hsz])
    rw [hsz] at h
    rw [h, hW1, hA1, show i + (k - i) = k by omega]
  have hclr : ∀ ty m' c', m' = 1 → (Builtin.clear_ #[66] ty #[.slice (some ⟨b, k * 2, none⟩) m' c']).run Try.prog W1 = .ok (.tuple #[]) (W1.setRow b A2) := fun ty m' c' hm => by
    subst hm
    rw [hA2]
    exact run_clearR (P := Try.prog) delU72 hinf hzz W1 hm1 (by rw [hA1s]; exact hf) (k * 2) c' ty hz1 (by simp [hzs]; rw [hA1s, hsize]; omega)
  have hic : i ≤ c := by omega
  have hjc : i + 1 ≤ c := by omega
  have hb3 : ¬ (c = k) := by omega
  have hb1 : (0 : Int) ≤ (i : Int) + 1 := by omega
  have hb4 : ((k + 1 : Nat) : Int) = (k : Int) + 1 := by omega
  have hb5 : (0 : Int) ≤ (k : Int) := by omega
  have hb6 : (k : Int) ≤ (k : Int) + 1 := by omega
  have hb7 : (k : Int) + 1 ≤ (c : Int) := by omega
  have hb8 : (i : Int) + 1 ≤ (k : Int) + 1 := by omega
  have hb2 : (i : Int) + 1 ≤ ((k + 1 : Nat) : Int) := by omega
  rw [← hW1]
  clear hcs hA1 hA2 hW1 hm1 hsrc hcl
  go_enter Try.func72, Try.ntmps72
  go_wp2_with fail
  go_region_law_o (refine step_append_runR rfl _ _ 66 66 rfl (.slice (some ⟨b, 0, none⟩) i c) (.slice (some Ad) (k - i) (c - (i + 1))) (by simp [Act.eval, Act.put]) (by simp [Act.eval, Act.put]) (hap _ _ _ rfl) ?_)
  go_wp2
  go_ret
  exact ⟨rfl, rfl⟩
theorem delF72 : DelF Try.prog 72 2 := by
  intro w b i n c arr tb fz hmem hsize hf h1c hi hnc hn
  obtain ⟨inf, z, hinf, hsz, hzz, hzs, hz1⟩ := delE72
  obtain ⟨k, rfl⟩ : ∃ k, n = k + 1 := ⟨n - 1, by omega⟩
  simp only [Nat.add_sub_cancel]
  obtain ⟨cs, hcs⟩ : ∃ cs, cs = (arr.toList.take ((k + 1) * 2)).drop ((i + 1) * 2) := ⟨_, rfl⟩
  have hsl : arr.toList.length = arr.size := Array.length_toList
  have hcl : cs.length = (k - i) * 2 := by rw [hcs, List.length_drop, List.length_take, hsl, hsize]; omega
  have hzl : z.cells.toList.length = 2 := by rw [Array.length_toList, hzs]
  refine (delW72 hinf hsz hzz hzs hz1 w b i k c arr tb fz cs hmem hf hi hnc hn hsize hcs (fun u hu => h1c u (by rw [hcs] at hu; exact List.mem_of_mem_drop hu)) _ _ rfl rfl).mono fun x w' => ?_
  rintro ⟨rfl, rfl⟩
  have hA1s : (arr.toList.take (i * 2) ++ (cs ++ arr.toList.drop (i * 2 + cs.length))).toArray.size = arr.size := by simp [hcl]; omega
  have hm1 := setRow_heap w.drew b arr (arr.toList.take (i * 2) ++ (cs ++ arr.toList.drop (i * 2 + cs.length))).toArray tb fz hmem
  have hA1t : (arr.toList.take (i * 2) ++ (cs ++ arr.toList.drop (i * 2 + cs.length))).toArray.toList.take (k * 2) = arr.toList.take (i * 2) ++ cs := by
    rw [List.toList_toArray, ← List.append_assoc]
    exact List.take_left' (by rw [List.length_append, List.length_take, hcl, hsl, hsize]; omega)
  generalize hA1 : (arr.toList.take (i * 2) ++ (cs ++ arr.toList.drop (i * 2 + cs.length))).toArray = A1 at *
  have hA1l : A1.toList.length = A1.size := Array.length_toList
  have hA2s : (A1.toList.take (k * 2) ++ (z.cells.toList ++ A1.toList.drop (k * 2 + z.cells.toList.length))).toArray.size = A1.size := by simp only [List.size_toArray, List.length_append, List.length_take, List.length_drop, hzl, hA1l, hA1s, hsize]; omega
  have hm2 := setRow_heap (w.drew.setRow b A1) b A1 (A1.toList.take (k * 2) ++ (z.cells.toList ++ A1.toList.drop (k * 2 + z.cells.toList.length))).toArray tb fz hm1
  refine ⟨rfl, rfl, rfl, rfl, _, hm2, by rw [hA2s, hA1s], ?_, by simp [World.setRow], fun j hj => ?_⟩
  · rw [List.toList_toArray, List.take_left' (by rw [List.length_take, hA1l, hA1s, hsize]; omega), hA1t, hcs]
  · rw [setRow_other _ _ _ _ hj, setRow_other _ _ _ _ hj]; rfl

noncomputable def con_law14_begun (N : Nat) : Con := ⟨52, [], [], Unit, fun _ => some (), fun _ => (.bs true, [], [])⟩
theorem con_law14_begun_ok (N : Nat) : Con.ok P0 (con_law14_begun N) := closed_con2 (nonJ_ok _) mixed progOk_ (noneΞ_ok2 _) (inl := [16,17,41,56,58,64,72,91]) (breath := 100000) (n := 60) (by kernel_rfl)
def as_slices_Clone_api_Item : List AS := [.val (.list (.agg (.pair (.int .i64) .str)))]
def bs_slices_Clone_api_Item : List BS := []
def pout_slices_Clone_api_Item : Pat := ⟨[(2, .acc 700005)], [(700005, .nrow 69 (.agg (.pair (.int .i64) .str)) false true)]⟩
noncomputable def G_slices_Clone_api_Item  (N : Nat) : OrcT := orcOf []
noncomputable def F_slices_Clone_api_Item  (N : Nat) (x : List (Int × List UInt8)) : Option (List (Int × List UInt8)) :=
  (evT (G_slices_Clone_api_Item  N) L0 P0 []
    [] N 400 (bodyOf Try.f71) ⟨8, slots 0 [.nl ⟨(.agg (.pair (.int .i64) .str)), x⟩], tabU (lbOf as_slices_Clone_api_Item bs_slices_Clone_api_Item x) [], []⟩).elim (kRet 8 pout_slices_Clone_api_Item (kpL []) (lbOf as_slices_Clone_api_Item bs_slices_Clone_api_Item x))
def out_slices_Clone_api_Item (y : List (Int × List UInt8)) : V × List OK × List OK := (.acc 2000000 0, [], [.nrow 69 false true ⟨(.agg (.pair (.int .i64) .str)), y⟩])
noncomputable def V_slices_Clone_api_Item  (N : Nat) (x : List (Int × List UInt8)) : Option (List (Int × List UInt8)) :=
  cnd (decide (List.length x * (24 : Nat) ≤ (140737488355328 : Nat))) (some x) none
theorem FV_slices_Clone_api_Item_eq  (N : Nat) (x : List (Int × List UInt8)) : F_slices_Clone_api_Item  N x = V_slices_Clone_api_Item  N x := by kernel_rfl
noncomputable def W_slices_Clone_api_Item (N : Nat) (x : List (Int × List UInt8)) : Option (List (Int × List UInt8)) :=
  cnd (decide (List.length x * (24 : Nat) ≤ (140737488355328 : Nat))) (some x) none
theorem F_slices_Clone_api_Item_eq (N : Nat) (x : List (Int × List UInt8)) : F_slices_Clone_api_Item  N x = W_slices_Clone_api_Item N x := (FV_slices_Clone_api_Item_eq  N x).trans (by kernel_rfl)
noncomputable def conw_slices_Clone_api_Item (w : List (Int × List UInt8) → Option (List (Int × List UInt8))) : Con := ⟨71, as_slices_Clone_api_Item, bs_slices_Clone_api_Item, List (Int × List UInt8), w, out_slices_Clone_api_Item⟩
noncomputable def con_slices_Clone_api_Item (N : Nat) : Con := conw_slices_Clone_api_Item (W_slices_Clone_api_Item N)
theorem R_slices_Clone_api_Item_eq (x : List (Int × List UInt8)) (y : List (Int × List UInt8)) : retOf2 P0 Try.f71 (kpL []) (lbOf as_slices_Clone_api_Item bs_slices_Clone_api_Item x) (patS ⟨8, [], [], []⟩ pout_slices_Clone_api_Item y) = some (out_slices_Clone_api_Item y) := by kernel_rfl
noncomputable def FA_slices_Clone_api_Item : Option (List (Int × List UInt8)) := (evT (G_slices_Clone_api_Item 1) L0 P0 [] [] 1 400 (bodyOf Try.f71) ⟨8, slots 0 [.snil], tabU [] [], []⟩).elim (kRet 8 pout_slices_Clone_api_Item (kpL []) [])
theorem FA_slices_Clone_api_Item_eq : FA_slices_Clone_api_Item = some [] := by kernel_rfl
theorem WN_slices_Clone_api_Item (N : Nat) (r : List (Int × List UInt8)) (h : W_slices_Clone_api_Item N [] = some r) : r = [] := by
  have e : W_slices_Clone_api_Item N [] = some [] := by kernel_rfl
  rw [e] at h; injection h with h; exact h.symm
theorem con_slices_Clone_api_Item_ok (N : Nat) : Con.ok P0 (con_slices_Clone_api_Item N) := ⟨⟨Try.f71, Try.func71, by kernel_rfl, by kernel_rfl⟩, fun (x : List (Int × List UInt8)) (r : List (Int × List UInt8)) (hr : W_slices_Clone_api_Item N x = some r) =>
  clone_split (e := (.agg (.pair (.int .i64) .str))) (ty := 69) (l := x) (r := r)
    (spec2_evT (Γ := G_slices_Clone_api_Item 1) (Λ := L0) (lb := []) (pout := pout_slices_Clone_api_Item) (kp := kpL []) mixed (orcOf_ok [] (by simp)) Try.func71 (c := bodyOf Try.f71) (by kernel_rfl) (by kernel_rfl) (of_decide_eq_true (by kernel_rfl)) FA_slices_Clone_api_Item_eq (R_slices_Clone_api_Item_eq x []))
    (spec2_evT (Γ := G_slices_Clone_api_Item N) (Λ := L0) (lb := []) (pout := pout_slices_Clone_api_Item) (kp := kpL []) mixed (orcOf_ok [] (by simp)) Try.func71 (c := bodyOf Try.f71) (by kernel_rfl) (by kernel_rfl) (of_decide_eq_true (by kernel_rfl)) ((F_slices_Clone_api_Item_eq N x).trans hr) (R_slices_Clone_api_Item_eq x r))
    (fun h => by subst h; exact WN_slices_Clone_api_Item N r hr)⟩
def as_slices_Delete_api_Item : List AS := [.acc 0, .val (.int .i64), .val (.int .i64)]
def bs_slices_Delete_api_Item : List BS := [.nrow 69 (.agg (.pair (.int .i64) .str)) true]
def out_slices_Delete_api_Item (y : List (Int × List UInt8)) : V × List OK × List OK := (.acc 2000000 0, [.dead], [.nrow 69 false true ⟨(.agg (.pair (.int .i64) .str)), y⟩])
noncomputable def W_slices_Delete_api_Item (N : Nat) (x : Int × Int × List (Int × List UInt8)) : Option (List (Int × List UInt8)) :=
  cnd (decide ((0 : Int) ≤ Prod.fst x) && decide (Prod.fst x < ((↑(List.length (Prod.snd (Prod.snd x))) : Int) : Int)) && decide (Prod.fst (Prod.snd x) = Prod.fst x + (1 : Int)) && decide (List.length (Prod.snd (Prod.snd x)) ≤ (140737488355328 : Nat)) && decide ((2 : Nat) ≤ List.length (Prod.snd (Prod.snd x)))) (some (List.take (Int.toNat (Prod.fst x)) (Prod.snd (Prod.snd x)) ++ List.drop (Int.toNat (Prod.fst x) + (1 : Nat)) (Prod.snd (Prod.snd x)))) none
noncomputable def conw_slices_Delete_api_Item (w : Int × Int × List (Int × List UInt8) → Option (List (Int × List UInt8))) : Con := ⟨72, as_slices_Delete_api_Item, bs_slices_Delete_api_Item, List (Int × List UInt8), w, out_slices_Delete_api_Item⟩
noncomputable def con_slices_Delete_api_Item (N : Nat) : Con := conw_slices_Delete_api_Item (W_slices_Delete_api_Item N)
theorem con_slices_Delete_api_Item_ok (N : Nat) : Con.ok P0 (con_slices_Delete_api_Item N) := ⟨⟨Try.f72, Try.func72, by kernel_rfl, by kernel_rfl⟩, fun (x : Int × Int × List (Int × List UInt8)) (r : List (Int × List UInt8)) (hr : W_slices_Delete_api_Item N x = some r) => by
  obtain ⟨i, j, l⟩ := x
  exact del_con2 (e := (.agg (.pair (.int .i64) .str))) (ty := 69) (nl := true) (l := l) (r := r) (i := i) (j := j) delF72 rfl (by decide) hr⟩
def as_ring_Add : List AS := [.val (.list (.agg (.pair (.int .i64) .str))), .val (.agg (.pair (.int .i64) .str))]
def bs_ring_Add : List BS := []
def pout_ring_Add : Pat := ⟨[(4, .val (.list (.agg (.pair (.int .i64) .str))))], []⟩
noncomputable def G_ring_Add (w_slices_Clone_api_Item : List (Int × List UInt8) → Option (List (Int × List UInt8))) (w_slices_Delete_api_Item : Int × Int × List (Int × List UInt8) → Option (List (Int × List UInt8))) (N : Nat) : OrcT := orcOf [conw_slices_Clone_api_Item w_slices_Clone_api_Item, conw_slices_Delete_api_Item w_slices_Delete_api_Item]
noncomputable def F_ring_Add (w_slices_Clone_api_Item : List (Int × List UInt8) → Option (List (Int × List UInt8))) (w_slices_Delete_api_Item : Int × Int × List (Int × List UInt8) → Option (List (Int × List UInt8))) (N : Nat) (x : (List (Int × List UInt8)) × Int × List UInt8) : Option (List (Int × List UInt8)) :=
  (evT (G_ring_Add w_slices_Clone_api_Item w_slices_Delete_api_Item N) L0 P0 []
    [] N 400 (bodyOf Try.f53) ⟨34, slots 0 (argsOf as_ring_Add bs_ring_Add x), tabU (lbOf as_ring_Add bs_ring_Add x) [], []⟩).elim (kRet 34 pout_ring_Add (kpL []) (lbOf as_ring_Add bs_ring_Add x))
def out_ring_Add (y : List (Int × List UInt8)) : V × List OK × List OK := (valW (.list (.agg (.pair (.int .i64) .str))) y, [], [])
noncomputable def V_ring_Add (w_slices_Clone_api_Item : List (Int × List UInt8) → Option (List (Int × List UInt8))) (w_slices_Delete_api_Item : Int × Int × List (Int × List UInt8) → Option (List (Int × List UInt8))) (N : Nat) (x : (List (Int × List UInt8)) × Int × List UInt8) : Option (List (Int × List UInt8)) :=
  obind (w_slices_Clone_api_Item (Prod.fst x)) fun (b : List (Int × List UInt8)) =>
    cnd (decide ((0 : Int) < (↑(List.length (Prod.fst x)) : Int)))
      (cnd
        (decide ((0 : Int) ≤ wr IntKind.i64 ((↑(List.length (Prod.fst x)) : Int) - (1 : Int))) &&
          decide (wr IntKind.i64 ((↑(List.length (Prod.fst x)) : Int) - (1 : Int)) < (↑(List.length (Prod.fst x)) : Int)))
        (cnd
          (decide
            (Prod.fst (Prod.snd x) ≤
              Prod.fst
                (List.getD (Prod.fst x) (Int.toNat (wr IntKind.i64 ((↑(List.length (Prod.fst x)) : Int) - (1 : Int))))
                  ((0 : Int), []))))
          (some b)
          (cnd
            (decide
              ((List.length b + List.length [(Prod.fst (Prod.snd x), Prod.snd (Prod.snd x))]) * (24 : Nat) ≤
                (140737488355328 : Nat)))
            (cnd (decide ((6 : Int) < (↑(List.length (b ++ [(Prod.fst (Prod.snd x), Prod.snd (Prod.snd x))])) : Int)))
              (obind
                (w_slices_Delete_api_Item ((0 : Int), (1 : Int), b ++ [(Prod.fst (Prod.snd x), Prod.snd (Prod.snd x))]))
                fun (b : List (Int × List UInt8)) => some b)
              (some (b ++ [(Prod.fst (Prod.snd x), Prod.snd (Prod.snd x))])))
            none))
        none)
      (cnd
        (decide
          ((List.length b + List.length [(Prod.fst (Prod.snd x), Prod.snd (Prod.snd x))]) * (24 : Nat) ≤
            (140737488355328 : Nat)))
        (cnd (decide ((6 : Int) < (↑(List.length (b ++ [(Prod.fst (Prod.snd x), Prod.snd (Prod.snd x))])) : Int)))
          (obind
            (w_slices_Delete_api_Item ((0 : Int), (1 : Int), b ++ [(Prod.fst (Prod.snd x), Prod.snd (Prod.snd x))]))
            fun (b : List (Int × List UInt8)) => some b)
          (some (b ++ [(Prod.fst (Prod.snd x), Prod.snd (Prod.snd x))])))
        none)
theorem FV_ring_Add_eq (w_slices_Clone_api_Item : List (Int × List UInt8) → Option (List (Int × List UInt8))) (w_slices_Delete_api_Item : Int × Int × List (Int × List UInt8) → Option (List (Int × List UInt8))) (N : Nat) (x : (List (Int × List UInt8)) × Int × List UInt8) : F_ring_Add w_slices_Clone_api_Item w_slices_Delete_api_Item N x = V_ring_Add w_slices_Clone_api_Item w_slices_Delete_api_Item N x := by kernel_rfl
noncomputable def W_ring_Add (N : Nat) (x : (List (Int × List UInt8)) × Int × List UInt8) : Option (List (Int × List UInt8)) :=
  obind (W_slices_Clone_api_Item N (Prod.fst x)) fun (b : List (Int × List UInt8)) =>
    cnd (decide ((0 : Int) < (↑(List.length (Prod.fst x)) : Int)))
      (cnd
        (decide ((0 : Int) ≤ wr IntKind.i64 ((↑(List.length (Prod.fst x)) : Int) - (1 : Int))) &&
          decide (wr IntKind.i64 ((↑(List.length (Prod.fst x)) : Int) - (1 : Int)) < (↑(List.length (Prod.fst x)) : Int)))
        (cnd
          (decide
            (Prod.fst (Prod.snd x) ≤
              Prod.fst
                (List.getD (Prod.fst x) (Int.toNat (wr IntKind.i64 ((↑(List.length (Prod.fst x)) : Int) - (1 : Int))))
                  ((0 : Int), []))))
          (some b)
          (cnd
            (decide
              ((List.length b + List.length [(Prod.fst (Prod.snd x), Prod.snd (Prod.snd x))]) * (24 : Nat) ≤
                (140737488355328 : Nat)))
            (cnd (decide ((6 : Int) < (↑(List.length (b ++ [(Prod.fst (Prod.snd x), Prod.snd (Prod.snd x))])) : Int)))
              (obind
                (W_slices_Delete_api_Item N ((0 : Int), (1 : Int), b ++ [(Prod.fst (Prod.snd x), Prod.snd (Prod.snd x))]))
                fun (b : List (Int × List UInt8)) => some b)
              (some (b ++ [(Prod.fst (Prod.snd x), Prod.snd (Prod.snd x))])))
            none))
        none)
      (cnd
        (decide
          ((List.length b + List.length [(Prod.fst (Prod.snd x), Prod.snd (Prod.snd x))]) * (24 : Nat) ≤
            (140737488355328 : Nat)))
        (cnd (decide ((6 : Int) < (↑(List.length (b ++ [(Prod.fst (Prod.snd x), Prod.snd (Prod.snd x))])) : Int)))
          (obind
            (W_slices_Delete_api_Item N ((0 : Int), (1 : Int), b ++ [(Prod.fst (Prod.snd x), Prod.snd (Prod.snd x))]))
            fun (b : List (Int × List UInt8)) => some b)
          (some (b ++ [(Prod.fst (Prod.snd x), Prod.snd (Prod.snd x))])))
        none)
theorem F_ring_Add_eq (N : Nat) (x : (List (Int × List UInt8)) × Int × List UInt8) : F_ring_Add (W_slices_Clone_api_Item N) (W_slices_Delete_api_Item N) N x = W_ring_Add N x := (FV_ring_Add_eq (W_slices_Clone_api_Item N) (W_slices_Delete_api_Item N) N x).trans (by kernel_rfl)
noncomputable def conw_ring_Add (w : (List (Int × List UInt8)) × Int × List UInt8 → Option (List (Int × List UInt8))) : Con := ⟨53, as_ring_Add, bs_ring_Add, List (Int × List UInt8), w, out_ring_Add⟩
noncomputable def con_ring_Add (N : Nat) : Con := conw_ring_Add (W_ring_Add N)
theorem R_ring_Add_eq (x : (List (Int × List UInt8)) × Int × List UInt8) (y : List (Int × List UInt8)) : retOf2 P0 Try.f53 (kpL []) (lbOf as_ring_Add bs_ring_Add x) (patS ⟨34, [], [], []⟩ pout_ring_Add y) = some (out_ring_Add y) := by kernel_rfl
theorem con_ring_Add_ok (N : Nat) : Con.ok P0 (con_ring_Add N) := ⟨⟨Try.f53, Try.func53, by kernel_rfl, by kernel_rfl⟩, fun (x : (List (Int × List UInt8)) × Int × List UInt8) (r : List (Int × List UInt8)) (hr : W_ring_Add N x = some r) =>
  spec2_evT (Γ := G_ring_Add (W_slices_Clone_api_Item N) (W_slices_Delete_api_Item N) N) (Λ := L0) (pout := pout_ring_Add) (kp := kpL []) mixed (orcOf_ok _ (by simp only [List.mem_cons, List.not_mem_nil, or_false, forall_eq_or_imp, forall_eq]; exact ⟨con_slices_Clone_api_Item_ok N, con_slices_Delete_api_Item_ok N⟩)) Try.func53 (c := bodyOf Try.f53) (by kernel_rfl) (by kernel_rfl) (of_decide_eq_true (by kernel_rfl)) ((F_ring_Add_eq N x).trans hr) (R_ring_Add_eq x r)⟩
def as_ring_find : List AS := [.val (.list (.agg (.pair (.int .i64) .str))), .val (.int .i64)]
def bs_ring_find : List BS := []
def pout_ring_find : Pat := ⟨[(4, .val (.alt 95 .str (.alt1 105 (.agg .unit))))], []⟩
noncomputable def G_ring_find  (N : Nat) : OrcT := orcOf []
noncomputable def F_ring_find  (N : Nat) (x : (List (Int × List UInt8)) × Int) : Option ((List UInt8) ⊕ Unit) :=
  (evT (G_ring_find  N) L0 P0 [(2, .loop [7] ⟨[(9, .val (.int .i64))], []⟩ [(.exit 0, ⟨[], []⟩), (.ret, ⟨[(4, .val (.alt 95 .str (.alt1 105 (.agg .unit))))], []⟩)])]
    [] N 400 (bodyOf Try.f73) ⟨23, slots 0 (argsOf as_ring_find bs_ring_find x), tabU (lbOf as_ring_find bs_ring_find x) [], []⟩).elim (kRet 23 pout_ring_find (kpL []) (lbOf as_ring_find bs_ring_find x))
def out_ring_find (y : (List UInt8) ⊕ Unit) : V × List OK × List OK := (valW (.alt 95 .str (.alt1 105 (.agg .unit))) y, [], [])
noncomputable def V_ring_find  (N : Nat) (x : (List (Int × List UInt8)) × Int) : Option ((List UInt8) ⊕ Unit) :=
  obind
    (loopN N
      (fun (v : Int) =>
        cnd (decide (v < (↑(List.length (Prod.fst x)) : Int)))
          (cnd (decide ((0 : Int) ≤ v) && decide (v < (↑(List.length (Prod.fst x)) : Int)))
            (cnd (decide (Prod.fst (List.getD (Prod.fst x) (Int.toNat v) ((0 : Int), [])) = Prod.snd x))
              (some (Sum.inr (Sum.inr (Sum.inl (Prod.snd (List.getD (Prod.fst x) (Int.toNat v) ((0 : Int), [])))))))
              (some (Sum.inl (wr IntKind.i64 (v + (1 : Int))))))
            none)
          (some (Sum.inr (Sum.inl ()))))
      (Int.ofNat (0 : Nat)))
    fun (b : PUnit ⊕ List UInt8 ⊕ PUnit) =>
    selim (fun (b : PUnit) => some (Sum.inr ())) (fun (c : List UInt8 ⊕ PUnit) => some c) b
theorem FV_ring_find_eq  (N : Nat) (x : (List (Int × List UInt8)) × Int) : F_ring_find  N x = V_ring_find  N x := by kernel_rfl
noncomputable def W_ring_find (N : Nat) (x : (List (Int × List UInt8)) × Int) : Option ((List UInt8) ⊕ Unit) :=
  obind
    (loopN N
      (fun (v : Int) =>
        cnd (decide (v < (↑(List.length (Prod.fst x)) : Int)))
          (cnd (decide ((0 : Int) ≤ v) && decide (v < (↑(List.length (Prod.fst x)) : Int)))
            (cnd (decide (Prod.fst (List.getD (Prod.fst x) (Int.toNat v) ((0 : Int), [])) = Prod.snd x))
              (some (Sum.inr (Sum.inr (Sum.inl (Prod.snd (List.getD (Prod.fst x) (Int.toNat v) ((0 : Int), [])))))))
              (some (Sum.inl (wr IntKind.i64 (v + (1 : Int))))))
            none)
          (some (Sum.inr (Sum.inl ()))))
      (Int.ofNat (0 : Nat)))
    fun (b : PUnit ⊕ List UInt8 ⊕ PUnit) =>
    selim (fun (b : PUnit) => some (Sum.inr ())) (fun (c : List UInt8 ⊕ PUnit) => some c) b
theorem F_ring_find_eq (N : Nat) (x : (List (Int × List UInt8)) × Int) : F_ring_find  N x = W_ring_find N x := (FV_ring_find_eq  N x).trans (by kernel_rfl)
noncomputable def conw_ring_find (w : (List (Int × List UInt8)) × Int → Option ((List UInt8) ⊕ Unit)) : Con := ⟨73, as_ring_find, bs_ring_find, (List UInt8) ⊕ Unit, w, out_ring_find⟩
noncomputable def con_ring_find (N : Nat) : Con := conw_ring_find (W_ring_find N)
theorem R_ring_find_eq (x : (List (Int × List UInt8)) × Int) (y : (List UInt8) ⊕ Unit) : retOf2 P0 Try.f73 (kpL []) (lbOf as_ring_find bs_ring_find x) (patS ⟨23, [], [], []⟩ pout_ring_find y) = some (out_ring_find y) := by kernel_rfl
theorem con_ring_find_ok (N : Nat) : Con.ok P0 (con_ring_find N) := ⟨⟨Try.f73, Try.func73, by kernel_rfl, by kernel_rfl⟩, fun (x : (List (Int × List UInt8)) × Int) (r : (List UInt8) ⊕ Unit) (hr : W_ring_find N x = some r) =>
  spec2_evT (Γ := G_ring_find N) (Λ := L0) (pout := pout_ring_find) (kp := kpL []) mixed (orcOf_ok [] (by simp)) Try.func73 (c := bodyOf Try.f73) (by kernel_rfl) (by kernel_rfl) (of_decide_eq_true (by kernel_rfl)) ((F_ring_find_eq N x).trans hr) (R_ring_find_eq x r)⟩
def as_ring_Get : List AS := [.val (.list (.agg (.pair (.int .i64) .str))), .val (.int .i64)]
def bs_ring_Get : List BS := []
def pout_ring_Get : Pat := ⟨[(4, .val .str), (5, .val .bool)], []⟩
noncomputable def G_ring_Get (w_ring_find : (List (Int × List UInt8)) × Int → Option ((List UInt8) ⊕ Unit)) (N : Nat) : OrcT := orcOf [conw_ring_find w_ring_find]
noncomputable def F_ring_Get (w_ring_find : (List (Int × List UInt8)) × Int → Option ((List UInt8) ⊕ Unit)) (N : Nat) (x : (List (Int × List UInt8)) × Int) : Option ((List UInt8) × Bool) :=
  (evT (G_ring_Get w_ring_find N) L0 P0 []
    [] N 400 (bodyOf Try.f54) ⟨17, slots 0 (argsOf as_ring_Get bs_ring_Get x), tabU (lbOf as_ring_Get bs_ring_Get x) [], []⟩).elim (kRet 17 pout_ring_Get (kpL []) (lbOf as_ring_Get bs_ring_Get x))
def out_ring_Get (y : (List UInt8) × Bool) : V × List OK × List OK := (.tup [valW .str y.1, valW .bool y.2], [], [])
noncomputable def V_ring_Get (w_ring_find : (List (Int × List UInt8)) × Int → Option ((List UInt8) ⊕ Unit)) (N : Nat) (x : (List (Int × List UInt8)) × Int) : Option ((List UInt8) × Bool) :=
  obind (w_ring_find (Prod.fst x, Prod.snd x)) fun (b : List UInt8 ⊕ PUnit) =>
    selim (fun (b : List UInt8) => some (b, true)) (fun (c : PUnit) => some ([], false)) b
theorem FV_ring_Get_eq (w_ring_find : (List (Int × List UInt8)) × Int → Option ((List UInt8) ⊕ Unit)) (N : Nat) (x : (List (Int × List UInt8)) × Int) : F_ring_Get w_ring_find N x = V_ring_Get w_ring_find N x := by kernel_rfl
noncomputable def W_ring_Get (N : Nat) (x : (List (Int × List UInt8)) × Int) : Option ((List UInt8) × Bool) :=
  obind (W_ring_find N (Prod.fst x, Prod.snd x)) fun (b : List UInt8 ⊕ PUnit) =>
    selim (fun (b : List UInt8) => some (b, true)) (fun (c : PUnit) => some ([], false)) b
theorem F_ring_Get_eq (N : Nat) (x : (List (Int × List UInt8)) × Int) : F_ring_Get (W_ring_find N) N x = W_ring_Get N x := (FV_ring_Get_eq (W_ring_find N) N x).trans (by kernel_rfl)
noncomputable def conw_ring_Get (w : (List (Int × List UInt8)) × Int → Option ((List UInt8) × Bool)) : Con := ⟨54, as_ring_Get, bs_ring_Get, (List UInt8) × Bool, w, out_ring_Get⟩
noncomputable def con_ring_Get (N : Nat) : Con := conw_ring_Get (W_ring_Get N)
theorem R_ring_Get_eq (x : (List (Int × List UInt8)) × Int) (y : (List UInt8) × Bool) : retOf2 P0 Try.f54 (kpL []) (lbOf as_ring_Get bs_ring_Get x) (patS ⟨17, [], [], []⟩ pout_ring_Get y) = some (out_ring_Get y) := by kernel_rfl
theorem con_ring_Get_ok (N : Nat) : Con.ok P0 (con_ring_Get N) := ⟨⟨Try.f54, Try.func54, by kernel_rfl, by kernel_rfl⟩, fun (x : (List (Int × List UInt8)) × Int) (r : (List UInt8) × Bool) (hr : W_ring_Get N x = some r) =>
  spec2_evT (Γ := G_ring_Get (W_ring_find N) N) (Λ := L0) (pout := pout_ring_Get) (kp := kpL []) mixed (orcOf_ok _ (by simp only [List.mem_cons, List.not_mem_nil, or_false, forall_eq_or_imp, forall_eq]; exact con_ring_find_ok N)) Try.func54 (c := bodyOf Try.f54) (by kernel_rfl) (by kernel_rfl) (of_decide_eq_true (by kernel_rfl)) ((F_ring_Get_eq N x).trans hr) (R_ring_Get_eq x r)⟩
def as_law14_RingLast : List AS := [.val (.list (.int .u8))]
def bs_law14_RingLast : List BS := []
def pout_law14_RingLast : Pat := ⟨[(2, .val .bool)], []⟩
noncomputable def G_law14_RingLast (w_ring_Add : (List (Int × List UInt8)) × Int × List UInt8 → Option (List (Int × List UInt8))) (w_ring_Get : (List (Int × List UInt8)) × Int → Option ((List UInt8) × Bool)) (N : Nat) : OrcT := orcOf [con_law14_begun N, conw_ring_Add w_ring_Add, conw_ring_Get w_ring_Get]
noncomputable def F_law14_RingLast (w_ring_Add : (List (Int × List UInt8)) × Int × List UInt8 → Option (List (Int × List UInt8))) (w_ring_Get : (List (Int × List UInt8)) × Int → Option ((List UInt8) × Bool)) (N : Nat) (x : List Int) : Option (Bool) :=
  (evT (G_law14_RingLast w_ring_Add w_ring_Get N) L0 P0 [(11, .loop [3] ⟨[(5, .val (.int .i64))], []⟩ [(.exit 2, ⟨[], []⟩), (.ret, ⟨[(2, .val .bool)], []⟩)]),
    (7, .loop [] ⟨[(3, .val (.list (.agg (.pair (.int .i64) .str)))), (4, .val (.int .i64))], []⟩ [(.exit 0, ⟨[], []⟩), (.ret, ⟨[(2, .val .bool)], []⟩)])]
    [(1000014, .reg [(10, [3], ⟨[(45, .val .bool), (54, .val .bool)], []⟩)])] N 400 (bodyOf Try.f13) ⟨71, slots 0 (argsOf as_law14_RingLast bs_law14_RingLast x), tabU (lbOf as_law14_RingLast bs_law14_RingLast x) [], []⟩).elim (kRet 71 pout_law14_RingLast (kpL []) (lbOf as_law14_RingLast bs_law14_RingLast x))
def out_law14_RingLast (y : Bool) : V × List OK × List OK := (valW .bool y, [], [])
noncomputable def V_law14_RingLast (w_ring_Add : (List (Int × List UInt8)) × Int × List UInt8 → Option (List (Int × List UInt8))) (w_ring_Get : (List (Int × List UInt8)) × Int → Option ((List UInt8) × Bool)) (N : Nat) (x : List Int) : Option (Bool) :=
  cnd (decide ((30 : Int) < (↑(List.length x) : Int))) (some true)
    (obind
      (loopN N
        (fun (v : List (Int × List UInt8) × Int) =>
          cnd (decide (Prod.snd v < (↑(List.length x) : Int)))
            (cnd (decide ((0 : Int) ≤ Prod.snd v) && decide (Prod.snd v < (↑(List.length x) : Int)))
              (cnd
                (List.all
                  [wr IntKind.u8 ((97 : Int) + Int.tmod (List.getD x (Int.toNat (Prod.snd v)) (0 : Int)) (26 : Int))]
                  fun (n : Int) => decide ((0 : Int) ≤ n) && decide (n < (256 : Int)))
                (obind
                  (w_ring_Add
                    (Prod.fst v, wr IntKind.i64 (Prod.snd v + (1 : Int)),
                      bytesI
                        [wr IntKind.u8
                            ((97 : Int) + Int.tmod (List.getD x (Int.toNat (Prod.snd v)) (0 : Int)) (26 : Int))]))
                  fun (b : List (Int × List UInt8)) =>
                  obind
                    (loopN N
                      (fun (v_1 : Int) =>
                        cnd (decide (v_1 ≤ wr IntKind.i64 (Prod.snd v + (1 : Int))))
                          (obind (w_ring_Get (b, wr IntKind.i64 (v_1 + (1 : Int)))) fun (b : List UInt8 × Bool) =>
                            obind
                              (cnd (decide (v_1 ≤ Prod.snd v))
                                (some (Prod.snd b, decide (wr IntKind.i64 (Prod.snd v - v_1) < (6 : Int))))
                                (some (Prod.snd b, false)))
                              fun (b_1 : Bool × Bool) =>
                              cnd (!Prod.fst b_1 == Prod.snd b_1) (some (Sum.inr (Sum.inr false)))
                                (cnd (Prod.snd b)
                                  (cnd (decide ((0 : Int) ≤ v_1) && decide (v_1 < (↑(List.length x) : Int)))
                                    (cnd
                                      (List.all
                                        [wr IntKind.u8
                                            ((97 : Int) + Int.tmod (List.getD x (Int.toNat v_1) (0 : Int)) (26 : Int))]
                                        fun (n : Int) => decide ((0 : Int) ≤ n) && decide (n < (256 : Int)))
                                      (cnd
                                        (!Prod.fst b ==
                                            bytesI
                                              [wr IntKind.u8
                                                  ((97 : Int) +
                                                    Int.tmod (List.getD x (Int.toNat v_1) (0 : Int)) (26 : Int))])
                                        (some (Sum.inr (Sum.inr false)))
                                        (some (Sum.inl (wr IntKind.i64 (v_1 + (1 : Int))))))
                                      none)
                                    none)
                                  (some (Sum.inl (wr IntKind.i64 (v_1 + (1 : Int)))))))
                          (some (Sum.inr (Sum.inl ()))))
                      (Int.ofNat (0 : Nat)))
                    fun (b_1 : PUnit ⊕ Bool) =>
                    selim (fun (b_2 : PUnit) => some (Sum.inl (b, wr IntKind.i64 (Prod.snd v + (1 : Int)))))
                      (fun (c : Bool) => some (Sum.inr (Sum.inr c))) b_1)
                none)
              none)
            (some (Sum.inr (Sum.inl ()))))
        ([], (0 : Int)))
      fun (b : PUnit ⊕ Bool) => selim (fun (b : PUnit) => some true) (fun (c : Bool) => some c) b)
theorem FV_law14_RingLast_eq (w_ring_Add : (List (Int × List UInt8)) × Int × List UInt8 → Option (List (Int × List UInt8))) (w_ring_Get : (List (Int × List UInt8)) × Int → Option ((List UInt8) × Bool)) (N : Nat) (x : List Int) : F_law14_RingLast w_ring_Add w_ring_Get N x = V_law14_RingLast w_ring_Add w_ring_Get N x := by kernel_rfl
noncomputable def W_law14_RingLast (N : Nat) (x : List Int) : Option (Bool) :=
  cnd (decide ((30 : Int) < (↑(List.length x) : Int))) (some true)
    (obind
      (loopN N
        (fun (v : List (Int × List UInt8) × Int) =>
          cnd (decide (Prod.snd v < (↑(List.length x) : Int)))
            (cnd (decide ((0 : Int) ≤ Prod.snd v) && decide (Prod.snd v < (↑(List.length x) : Int)))
              (cnd
                (List.all
                  [wr IntKind.u8 ((97 : Int) + Int.tmod (List.getD x (Int.toNat (Prod.snd v)) (0 : Int)) (26 : Int))]
                  fun (n : Int) => decide ((0 : Int) ≤ n) && decide (n < (256 : Int)))
                (obind
                  (W_ring_Add N
                    (Prod.fst v, wr IntKind.i64 (Prod.snd v + (1 : Int)),
                      bytesI
                        [wr IntKind.u8
                            ((97 : Int) + Int.tmod (List.getD x (Int.toNat (Prod.snd v)) (0 : Int)) (26 : Int))]))
                  fun (b : List (Int × List UInt8)) =>
                  obind
                    (loopN N
                      (fun (v_1 : Int) =>
                        cnd (decide (v_1 ≤ wr IntKind.i64 (Prod.snd v + (1 : Int))))
                          (obind (W_ring_Get N (b, wr IntKind.i64 (v_1 + (1 : Int)))) fun (b : List UInt8 × Bool) =>
                            obind
                              (cnd (decide (v_1 ≤ Prod.snd v))
                                (some (Prod.snd b, decide (wr IntKind.i64 (Prod.snd v - v_1) < (6 : Int))))
                                (some (Prod.snd b, false)))
                              fun (b_1 : Bool × Bool) =>
                              cnd (!Prod.fst b_1 == Prod.snd b_1) (some (Sum.inr (Sum.inr false)))
                                (cnd (Prod.snd b)
                                  (cnd (decide ((0 : Int) ≤ v_1) && decide (v_1 < (↑(List.length x) : Int)))
                                    (cnd
                                      (List.all
                                        [wr IntKind.u8
                                            ((97 : Int) + Int.tmod (List.getD x (Int.toNat v_1) (0 : Int)) (26 : Int))]
                                        fun (n : Int) => decide ((0 : Int) ≤ n) && decide (n < (256 : Int)))
                                      (cnd
                                        (!Prod.fst b ==
                                            bytesI
                                              [wr IntKind.u8
                                                  ((97 : Int) +
                                                    Int.tmod (List.getD x (Int.toNat v_1) (0 : Int)) (26 : Int))])
                                        (some (Sum.inr (Sum.inr false)))
                                        (some (Sum.inl (wr IntKind.i64 (v_1 + (1 : Int))))))
                                      none)
                                    none)
                                  (some (Sum.inl (wr IntKind.i64 (v_1 + (1 : Int)))))))
                          (some (Sum.inr (Sum.inl ()))))
                      (Int.ofNat (0 : Nat)))
                    fun (b_1 : PUnit ⊕ Bool) =>
                    selim (fun (b_2 : PUnit) => some (Sum.inl (b, wr IntKind.i64 (Prod.snd v + (1 : Int)))))
                      (fun (c : Bool) => some (Sum.inr (Sum.inr c))) b_1)
                none)
              none)
            (some (Sum.inr (Sum.inl ()))))
        ([], (0 : Int)))
      fun (b : PUnit ⊕ Bool) => selim (fun (b : PUnit) => some true) (fun (c : Bool) => some c) b)
theorem F_law14_RingLast_eq (N : Nat) (x : List Int) : F_law14_RingLast (W_ring_Add N) (W_ring_Get N) N x = W_law14_RingLast N x := (FV_law14_RingLast_eq (W_ring_Add N) (W_ring_Get N) N x).trans (by kernel_rfl)
noncomputable def conw_law14_RingLast (w : List Int → Option (Bool)) : Con := ⟨13, as_law14_RingLast, bs_law14_RingLast, Bool, w, out_law14_RingLast⟩
noncomputable def con_law14_RingLast (N : Nat) : Con := conw_law14_RingLast (W_law14_RingLast N)
theorem R_law14_RingLast_eq (x : List Int) (y : Bool) : retOf2 P0 Try.f13 (kpL []) (lbOf as_law14_RingLast bs_law14_RingLast x) (patS ⟨71, [], [], []⟩ pout_law14_RingLast y) = some (out_law14_RingLast y) := by kernel_rfl
theorem con_law14_RingLast_ok (N : Nat) : Con.ok P0 (con_law14_RingLast N) := ⟨⟨Try.f13, Try.func13, by kernel_rfl, by kernel_rfl⟩, fun (x : List Int) (r : Bool) (hr : W_law14_RingLast N x = some r) =>
  spec2_evT (Γ := G_law14_RingLast (W_ring_Add N) (W_ring_Get N) N) (Λ := L0) (pout := pout_law14_RingLast) (kp := kpL []) mixed (orcOf_ok _ (by simp only [List.mem_cons, List.not_mem_nil, or_false, forall_eq_or_imp, forall_eq]; exact ⟨con_law14_begun_ok N, con_ring_Add_ok N, con_ring_Get_ok N⟩)) Try.func13 (c := bodyOf Try.f13) (by kernel_rfl) (by kernel_rfl) (of_decide_eq_true (by kernel_rfl)) ((F_law14_RingLast_eq N x).trans hr) (R_law14_RingLast_eq x r)⟩
/-! What is reckoned. -/
-- PURE
theorem wr_m {z : Int} (h : -140737488355328 ≤ z) (h2 : z ≤ 140737488355328) : wr .i64 z = z := wr_i64 (by omega) (by omega)
abbrev It := Int × List UInt8
abbrev iD : It := ((0 : Int), ([] : List UInt8))
theorem find_spec (N : Nat) (l : List It) (s : Int) (hN : l.length < N) (hl : l.length ≤ 1000) : ∃ r : List UInt8 ⊕ Unit, W_ring_find N (l, s) = some r ∧
    ((∃ t, r = .inl t ∧ ∃ j : Nat, j < l.length ∧ (l.getD j iD).1 = s ∧ t = (l.getD j iD).2) ∨ (r = .inr () ∧ ∀ j : Nat, j < l.length → (l.getD j iD).1 ≠ s)) := by
  unfold W_ring_find
  simp only
  obtain ⟨r, h1, h2⟩ := loopN_run (N := N) (f := fun (v : Int) =>
      cnd (decide (v < (↑(List.length l) : Int)))
        (cnd (decide ((0 : Int) ≤ v) && decide (v < (↑(List.length l) : Int)))
          (cnd (decide (Prod.fst (List.getD l (Int.toNat v) ((0 : Int), [])) = s))
            (some (Sum.inr (Sum.inr (Sum.inl (Prod.snd (List.getD l (Int.toNat v) ((0 : Int), [])))))))
            (some (Sum.inl (wr IntKind.i64 (v + (1 : Int))))))
          none)
        (some (Sum.inr (Sum.inl () : PUnit ⊕ List UInt8 ⊕ PUnit)))) (x := Int.ofNat 0)
    (fun v => 0 ≤ v ∧ v ≤ l.length ∧ ∀ j : Nat, (j : Int) < v → (l.getD j iD).1 ≠ s) (fun v => l.length - v.toNat)
    (fun r => (r = .inl () ∧ ∀ j : Nat, j < l.length → (l.getD j iD).1 ≠ s) ∨ (∃ t, r = .inr (.inl t) ∧ ∃ j : Nat, j < l.length ∧ (l.getD j iD).1 = s ∧ t = (l.getD j iD).2)) (fun v ⟨g1, g2, g3⟩ => by
      try simp only
      by_cases h : v < l.length
      · simp only [dT h, dT g1, Bool.and_self, cnd_t]
        by_cases he : (l.getD v.toNat iD).1 = s
        · right
          rw [dT he, cnd_t]
          exact ⟨_, rfl, .inr ⟨_, rfl, v.toNat, by omega, he, rfl⟩⟩
        · left
          rw [dF he, cnd_f, wr_m (by omega) (by omega)]
          refine ⟨_, rfl, ⟨by omega, by omega, fun j hj => ?_⟩, by omega⟩
          by_cases hjv : (j : Int) < v
          · exact g3 j hjv
          · have : j = v.toNat := by omega
            subst this
            exact he
      · right
        rw [dF h, cnd_f]
        exact ⟨_, rfl, .inl ⟨rfl, fun j hj => g3 j (by omega)⟩⟩) ⟨by simp, by simp, fun j hj => by simp at hj; omega⟩ (by simp; omega)
  rw [h1, obind_s]
  rcases h2 with ⟨rfl, h2⟩ | ⟨t, rfl, h2⟩
  · exact ⟨_, rfl, .inr ⟨rfl, h2⟩⟩
  · exact ⟨_, rfl, .inl ⟨t, rfl, h2⟩⟩
theorem Get_spec (N : Nat) (l : List It) (s : Int) (hN : l.length < N) (hl : l.length ≤ 1000) : ∃ t ok, W_ring_Get N (l, s) = some (t, ok) ∧
    ((ok = true ∧ ∃ j : Nat, j < l.length ∧ (l.getD j iD).1 = s ∧ t = (l.getD j iD).2) ∨ (ok = false ∧ t = [] ∧ ∀ j : Nat, j < l.length → (l.getD j iD).1 ≠ s)) := by
  obtain ⟨r, h1, h2⟩ := find_spec N l s hN hl
  unfold W_ring_Get
  simp only [h1, obind_s]
  rcases h2 with ⟨t, rfl, h2⟩ | ⟨rfl, h2⟩
  · exact ⟨t, true, rfl, .inl ⟨rfl, h2⟩⟩
  · exact ⟨[], false, rfl, .inr ⟨rfl, rfl, h2⟩⟩
theorem Clone_i (N : Nat) (l : List It) (hl : l.length ≤ 1000) : W_slices_Clone_api_Item N l = some l := by
  unfold W_slices_Clone_api_Item
  rw [dT (by omega), cnd_t]
/-- What a ring comes to with one more behind it. -/
def addR (l : List It) (e : It) : List It := if 6 ≤ l.length then (l ++ [e]).drop 1 else l ++ [e]
theorem Add_eq (N : Nat) (l : List It) (e : It) (hl : l.length ≤ 6) (hs : ∀ h : 0 < l.length, (l.getD (l.length - 1) iD).1 < e.1) : W_ring_Add N (l, e.1, e.2) = some (addR l e) := by
  unfold W_ring_Add
  simp only [Clone_i N l (by omega), obind_s]
  have tail : cnd (decide ((List.length l + List.length [(e.1, e.2)]) * (24 : Nat) ≤ (140737488355328 : Nat)))
          (cnd (decide ((6 : Int) < (↑(List.length (l ++ [(e.1, e.2)])) : Int)))
            (obind
              (W_slices_Delete_api_Item N ((0 : Int), (1 : Int), l ++ [(e.1, e.2)]))
              fun (b : List (Int × List UInt8)) => some b)
            (some (l ++ [(e.1, e.2)])))
          none = some (addR l e) := by
    rw [dT (by simp only [List.length_singleton]; omega), cnd_t]
    unfold addR
    by_cases h6 : 6 ≤ l.length
    · rw [dT (by simp only [List.length_append, List.length_singleton]; omega), cnd_t, if_pos h6]
      unfold W_slices_Delete_api_Item
      simp only
      rw [dT (by omega), dT (by simp only [List.length_append, List.length_singleton]; omega), dT (by omega), dT (by simp only [List.length_append, List.length_singleton]; omega), dT (by simp only [List.length_append, List.length_singleton]; omega)]
      simp only [Bool.and_self, cnd_t, obind_s]
      rfl
    · rw [dF (by simp only [List.length_append, List.length_singleton]; omega), cnd_f, if_neg h6]
  by_cases h0 : (0 : Int) < l.length
  · have w1 : wr .i64 ((l.length : Int) - 1) = ((l.length - 1 : Nat) : Int) := by rw [wr_m (by omega) (by omega)]; omega
    have h1 := hs (by omega)
    rw [dT h0, cnd_t, w1, dT (by omega), dT (by omega), Bool.and_self, cnd_t, Int.toNat_natCast, dF (by show ¬ e.1 ≤ (l.getD (l.length - 1) iD).1; omega), cnd_f]
    exact tail
  · rw [dF h0, cnd_f]
    exact tail
theorem addR_len (l : List It) (e : It) (hl : l.length ≤ 6) : (addR l e).length = min (l.length + 1) 6 := by
  unfold addR
  split <;> simp <;> omega
theorem addR_get (l : List It) (e : It) (hl : l.length ≤ 6) (j : Nat) (hj : j < (addR l e).length) : (addR l e).getD j iD = if j + 1 = (addR l e).length then e else l.getD (j + (l.length + 1 - (addR l e).length)) iD := by
  have h := addR_len l e hl
  rw [h] at hj ⊢
  unfold addR
  split
  · rename_i h6
    have h7 : l.length = 6 := by omega
    rw [List.getD_eq_getElem?_getD, List.getElem?_drop, h7]
    by_cases c : j + 1 = 6
    · rw [if_pos (by omega), List.getElem?_append_right (by omega), show 1 + j - l.length = 0 by omega]; rfl
    · rw [if_neg (by omega), List.getElem?_append_left (by omega), List.getD_eq_getElem?_getD]; congr 2; omega
  · rename_i h6
    rw [List.getD_eq_getElem?_getD]
    by_cases c : j = l.length
    · rw [if_pos (by omega), List.getElem?_append_right (by omega), c, Nat.sub_self]; rfl
    · rw [if_neg (by omega), List.getElem?_append_left (by omega), List.getD_eq_getElem?_getD]; congr 2; omega
def T (x : List Int) (k : Nat) : List UInt8 := bytesI [97 + x.getD k 0 % 26]
def Inv (x : List Int) (i : Nat) (R : List It) : Prop := R.length = min i 6 ∧ ∀ j : Nat, j < R.length → R.getD j iD = (((i - R.length + j + 1 : Nat) : Int), T x (i - R.length + j))
theorem Inv_add (x : List Int) (i : Nat) (R : List It) (h : Inv x i R) : Inv x (i + 1) (addR R (((i + 1 : Nat) : Int), T x i)) := by
  obtain ⟨h1, h2⟩ := h
  have hl : R.length ≤ 6 := by omega
  have hlen := addR_len R (((i + 1 : Nat) : Int), T x i) hl
  refine ⟨by rw [hlen]; omega, fun j hj => ?_⟩
  rw [addR_get _ _ hl j hj, hlen]
  rw [hlen] at hj
  by_cases c : j + 1 = min (R.length + 1) 6
  · rw [if_pos c]
    have e1 : i + 1 - min (R.length + 1) 6 + j = i := by omega
    rw [e1]
  · rw [if_neg c, h2 _ (by omega)]
    have e1 : i - R.length + (j + (R.length + 1 - min (R.length + 1) 6)) = i + 1 - min (R.length + 1) 6 + j := by omega
    rw [e1]
theorem Twf_u8 {l : List Int} (h : Twf (.list (.int .u8)) l) : ∀ j : Nat, 0 ≤ l.getD j 0 ∧ l.getD j 0 ≤ 255 := by
  intro j
  rw [List.getD_eq_getElem?_getD]
  by_cases hj : j < l.length
  · rw [List.getElem?_eq_getElem hj]
    have := h.2 _ (List.getElem_mem hj)
    exact this
  · rw [List.getElem?_eq_none (by omega)]; simp
theorem law_aux (N : Nat) (hN : 100 ≤ N) (x : List Int) (hx : ∀ j : Nat, 0 ≤ x.getD j 0 ∧ x.getD j 0 ≤ 255) : W_law14_RingLast N x = some true := by
  unfold W_law14_RingLast
  by_cases c1 : (30 : Int) < x.length
  · rw [dT c1, cnd_t]
  rw [dF c1, cnd_f]
  refine obind_loop (fun v : List It × Int => ∃ i : Nat, v.2 = i ∧ i ≤ x.length ∧ Inv x i v.1) (fun v => x.length - v.2.toNat) (fun r : PUnit ⊕ Bool => r = .inl ()) ⟨0, rfl, by omega, by simp, fun j hj => by simp at hj⟩ (by simp; omega) ?_ ?_
  · rintro r rfl; rw [selim_l]
  · rintro ⟨R, v⟩ ⟨i, hi, hil, hI⟩
    simp only at hi hI ⊢
    subst hi
    by_cases hlt : (i : Int) < x.length
    case neg => right; rw [dF hlt, cnd_f]; exact ⟨_, rfl, rfl⟩
    left
    have hb := hx i
    have w1 : ∀ k : Nat, wr .u8 (97 + Int.tmod (x.getD k 0) 26) = 97 + x.getD k 0 % 26 := fun k => by
      have := hx k
      rw [Int.tmod_eq_emod_of_nonneg this.1, wr_u8 (by omega) (by omega)]
    have hall : ∀ k : Nat, List.all [97 + x.getD k 0 % 26] (fun (n : Int) => decide ((0 : Int) ≤ n) && decide (n < (256 : Int))) = true := fun k => by
      have := hx k
      simp only [List.all_cons, List.all_nil, Bool.and_true, Bool.and_eq_true, decide_eq_true_eq]; omega
    have w2 : wr .i64 ((i : Int) + 1) = ((i + 1 : Nat) : Int) := by rw [wr_m (by omega) (by omega)]; omega
    rw [dT hlt, cnd_t, dT (by omega), Bool.and_self, cnd_t, Int.toNat_natCast, w1, hall, cnd_t, w2]
    have hR6 : R.length ≤ 6 := by have := hI.1; omega
    have hadd := Add_eq N R (((i + 1 : Nat) : Int), T x i) hR6 (fun h => by
      rw [hI.2 _ (by omega)]; simp only; have := hI.1; omega)
    have hadd' : W_ring_Add N (R, ((i + 1 : Nat) : Int), bytesI [97 + x.getD i 0 % 26]) = some (addR R (((i + 1 : Nat) : Int), T x i)) := hadd
    rw [hadd', obind_s]
    have hI' := Inv_add x i R hI
    generalize addR R (((i + 1 : Nat) : Int), T x i) = R' at *
    refine ⟨(R', ((i + 1 : Nat) : Int)), ?_, ⟨i + 1, rfl, by omega, hI'⟩, by simp only; omega⟩
    refine obind_loop (fun v : Int => 0 ≤ v ∧ v ≤ i + 2) (fun v => i + 2 - v.toNat) (fun r : PUnit ⊕ Bool => r = .inl ()) ⟨by simp, by simp; omega⟩ (by simp; omega) ?_ ?_
    · rintro r rfl; rw [selim_l]
    · rintro v ⟨g1, g2⟩
      obtain ⟨k, rfl⟩ : ∃ k : Nat, v = k := ⟨v.toNat, by omega⟩
      by_cases hk : (k : Int) ≤ ((i + 1 : Nat) : Int)
      case neg => right; rw [dF hk, cnd_f]; exact ⟨_, rfl, rfl⟩
      left
      have w3 : wr .i64 ((k : Int) + 1) = ((k + 1 : Nat) : Int) := by rw [wr_m (by omega) (by omega)]; omega
      have hR6' : R'.length ≤ 6 := by have := hI'.1; omega
      obtain ⟨t, ok, e1, e2⟩ := Get_spec N R' ((k + 1 : Nat) : Int) (by omega) (by omega)
      rw [dT hk, cnd_t, w3, e1, obind_s]
      simp only
      have w4 : wr .i64 ((i : Int) - k) = (i : Int) - k := wr_m (by omega) (by omega)
      have hL := hI'.1
      refine ⟨((k + 1 : Nat) : Int), ?_, ⟨by omega, by omega⟩, by omega⟩
      rcases e2 with ⟨rfl, j, j1, j2, rfl⟩ | ⟨rfl, rfl, hno⟩
      · rw [hI'.2 j j1] at j2 ⊢
        simp only at j2 ⊢
        have hkj : k = i + 1 - R'.length + j := by omega
        have hki : (k : Int) ≤ i := by omega
        have hkx : (k : Int) < x.length := by omega
        rw [dT hki, cnd_t, obind_s, w4, dT (by omega)]
        simp only [BEq.rfl, Bool.not_true, cnd_f, cnd_t]
        rw [dT (by omega), dT hkx, Bool.and_self, cnd_t, Int.toNat_natCast, w1, hall, cnd_t, ← hkj]
        have : (T x k == bytesI [97 + x.getD k 0 % 26]) = true := beq_self_eq_true _
        rw [this, Bool.not_true, cnd_f]
      · have hex : ¬ ((k : Int) ≤ i ∧ (i : Int) - k < 6) := by
          rintro ⟨a1, a2⟩
          refine hno (k - (i + 1 - R'.length)) (by omega) ?_
          rw [hI'.2 _ (by omega)]
          simp only; omega
        by_cases hki : (k : Int) ≤ i
        · rw [dT hki, cnd_t, obind_s, w4, dF (by omega)]
          simp only [BEq.rfl, Bool.not_true, cnd_f]
        · rw [dF hki, cnd_f, obind_s]
          simp only [BEq.rfl, Bool.not_true, cnd_f]
def NN : Nat := 100
theorem law_true (y0 : List Int) (h0 : Twf (.list (.int .u8)) y0) : W_law14_RingLast NN y0 = some true := law_aux NN (Nat.le_refl _) y0 (Twf_u8 h0)

theorem spec (y0 : List Int) (h0 : Twf (.list (.int .u8)) y0) : Spec2 P0 13 [valW (.list (.int .u8)) y0] [] (.bs true) [] [] := (con_law14_RingLast_ok NN).2 y0 true (law_true y0 h0)
theorem lifted (os : Os) (started : os.Started) (H : Type) (enc : TypeId × Value → H) :
    ReturnsInHanded {} Try.checked os 13 .any (Rows.ringLastSpec.pre6 enc Try.prog Try.f13 Rows.ringLastRow.domain false) (Rows.ringLastSpec.post enc Try.prog Try.f13 false true false false) := by
  refine returnsInHanded_of_change (C := Try.checked) own started (by kernel_rfl) Try.func13
    (ChangeSpec.witness6 (enc := enc) (C := Try.checked) false ⟨#[], #[.slice none 0 0], []⟩ 8 (by kernel_rfl) (by kernel_rfl) (by kernel_rfl) (by kernel_rfl)) ?_
  intro W base args ds gs before hval0 hW hcnd _
  have hval : ∀ (j : Nat) t v, Try.f13.params[j]? = some t → args[j]? = some v → Value.okWide Try.prog W .any base t v := hval0
  have hW' := hW
  obtain ⟨p, q, hA0, hV, rfl, hfz, hnd⟩ := hW
  have hA : DataW.TrodAll enc Try.prog W 0 (fun _ => true) true Try.f13.params.toList args.toList ds p := hA0
  rw [Try.params13] at hA hval
  obtain ⟨v0, vs0, d0, ds0, p0, q0, hargs, rfl, rfl, h0, r0⟩ := trodAll_cons hA
  obtain ⟨rfl, rfl, rfl⟩ := trodAll_nil r0
  obtain rfl : args = #[v0] := by cases args; simp_all
  obtain ⟨rfl, rfl⟩ := trodVars_none hV
  have k0 := h0
  have lt0 : ∀ x ∈ p0, x.block < W.heap.size := by obtain ⟨m, hm⟩ := k0; exact DataW.trod_lt m _ _ _ hm
  obtain ⟨y0, rp0, wf0⟩ := arg_ok (n := 12) (ty := (.list (.int .u8))) (by kernel_rfl) (hval 0 _ v0 rfl rfl) h0
  clear hA0 hval0
  refine (law_of2 (spec y0 wf0) W #[v0] (.cons rp0 .nil)).mono fun e W' ⟨he, bel⟩ => ?_
  subst he
  exact ⟨_, rfl, _, _, _, [], _, [], hW', trodAll_mk1 (shut_bool Try.underlying4 _), (trodAll_cons_mk (Below.trod laidOut (by kernel_rfl) (of_decide_eq_true (by kernel_rfl)) k0 bel lt0) trodAll_mk0), rfl, bel.frame _, fun h => by cases h⟩

theorem over : Rows.ringLastRow.holds Try.pinned (OpenSpec.ofChange Rows.ringLastSpec) :=
  OpenClaim.holds_of_wide 13 Try.f13 rfl rfl rfl rfl rfl rfl rfl ⟨rfl, rfl, rfl, rfl, rfl⟩ rfl rfl rfl rfl rfl (by kernel_rfl) Try.func13 (by kernel_rfl)
    (of_decide_eq_true (by kernel_rfl)) (by unfold Func.isWrapper; first | (rw [if_pos (by decide +kernel)]; kernel_rfl) | (rw [if_neg (by decide +kernel)]; exact ⟨rfl, rfl⟩))
    (fun os started H enc _ => lifted os started H enc)

theorem holds : Rows.RingLastSaid := over
end Go.Proofs.Ytfiiigeigiaaeaa.ringLastX
