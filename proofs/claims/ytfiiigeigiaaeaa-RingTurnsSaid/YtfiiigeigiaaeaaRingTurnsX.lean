/- RingTurns: for all arguments the call returns true. The law is brought to a function of Lean's own (W_..) by the machine of the texts beside it, and that is reckoned; no condition. -/
import Derived.Test.YtfiiigeigiaaeaaExtDl
import Derived.Test.YtfiiigeigiaaeaaExtL
import Derived.Test.YtfiiigeigiaaeaaRows
import Derived.WalkKit
import Derived.ProofKit
import Derived.OpenShut
import Derived.ShutString
import Derived.ChangeOld
import Derived.Below
import Derived.Shelf.RegionOpenPlain
import Derived.Deep.RegionLaw
import Derived.Lib.Walk
namespace Go.Proofs.Ytfiiigeigiaaeaa.ringTurnsX
open Go.Abs Go.RowKit Go.ChangeShapes Go.WideShapes Go.ChangeAt
set_option maxRecDepth 100000
set_option linter.unusedVariables false
set_option linter.unusedSimpArgs false
noncomputable abbrev P0 : Program := Try.prog
noncomputable def bodyOf (fn : Func) : Code := fn.body.getD .skip
def L0 : Lend := fun f => aget [] [(72, [0])] f
def kpL (l : List Bool) : Nat → Bool := fun j => l.getD j true
theorem own : ownKnob Try.prog.godebug = none := by kernel_rfl
theorem laidOut : laidOutB Try.prog = true := by kernel_rfl
theorem mixed : P0.follows .mixedOrders = true := by decide +kernel
theorem progOk_ : progOk P0 = true := by decide +kernel

theorem delU72 : Try.prog.underlying 66 = some (.slice 69) := by kernel_rfl
theorem delE72 : ∃ (inf : TypeInfo) (z : Value), Try.prog.info? 69 = some inf ∧ inf.size = 2 ∧ inf.zero = some z ∧ z.cells.size = 2 ∧ (∀ u ∈ z.cells.toList, u.oneCell' = true) := delE_of (by kernel_rfl)
set_option maxHeartbeats 4000000 in
theorem delW72 {inf : TypeInfo} {z : Value} (hinf : Try.prog.info? 69 = some inf) (hsz : inf.size = 2) (hzz : inf.zero = some z) (hzs : z.cells.size = 2) (hz1 : ∀ u ∈ z.cells.toList, u.oneCell' = true) (w : World) (b i k c : Nat) (arr : Array Value) (tb : Nat) (fz : Nat × Nat) (cs : List Value) (hmem : w.heap[b]? = some (.cells arr tb fz)) (hf : ∀ j, j < arr.size → ¬ (fz.1 ≤ j ∧ j < fz.2))
    (hi : i < k + 1) (hnc : k + 1 ≤ c) (hn : k + 1 ≤ 140737488355328) (hsize : arr.size = c * 2) (hcs : cs = (arr.toList.take ((k + 1) * 2)).drop ((i + 1) * 2)) (h1c : ∀ u ∈ cs, u.oneCell' = true) (A1 A2 : Array Value)
    (hA1 : A1 = (arr.toList.take (i * 2) ++ (cs ++ arr.toList.drop (i * 2 + cs.length))).toArray) (hA2 : A2 = (A1.toList.take (k * 2) ++ (z.cells.toList ++ A1.toList.drop (k * 2 + z.cells.toList.length))).toArray) :
    Calls Try.prog 72 #[.slice (some ⟨b, 0, none⟩) (k + 1) c, .int .i64 (i : Nat), .int .i64 ((i : Int) + 1)] w fun e w' => e = .returned (.slice (some ⟨b, 0, none⟩) k c) ∧ w' = (w.drew.setRow b A1).setRow b A2 := by
  have mixed := mixed
  have hz2 : ¬ ((i : Int) = (i : Int) + 1) := by omega
  have hcl : cs.length = (k - i) * 2 := by rw [hcs]; simp; omega
  have hA1s : A1.size = arr.size := by rw [hA1]; simp [hcl]; omega
  obtain ⟨Ad, hA, hsrc⟩ : ∃ Ad : Addr, (if c = i + 1 then (some ⟨b, 0, none⟩ : Option Addr) else some ⟨b, (i + 1) * 2, none⟩) = some Ad ∧ (∀ (t : Nat) (u : Value), cs[t]? = some u → w.drew.cell? (Ad.add t) = some u) := by
    by_cases h : c = i + 1
    · refine ⟨⟨b, 0, none⟩, by simp [h], fun t u hu => ?_⟩
      have h0 : cs = [] := List.eq_nil_of_length_eq_zero (by rw [hcl, show k - i = 0 by omega, Nat.zero_mul])
      rw [h0] at hu; simp at hu
    · refine ⟨⟨b, (i + 1) * 2, none⟩, by simp [h], fun t u hu => ?_⟩
      rw [hcs, List.getElem?_drop, List.getElem?_take] at hu
      split at hu
      · rw [Addr.add_lit]
        have e : w.drew.cell? ⟨b, (i + 1) * 2 + t, none⟩ = arr[(i + 1) * 2 + t]? := by simp [World.cell?, show w.drew.heap = w.heap from rfl, hmem]
        rw [e]; simpa using hu
      · cases hu
  obtain ⟨W1, hW1⟩ : ∃ W1, W1 = w.drew.setRow b A1 := ⟨_, rfl⟩
  have hm1 : W1.heap[b]? = some (.cells A1 tb fz) := by rw [hW1]; exact setRow_heap w.drew b arr A1 tb fz hmem
  have hap : ∀ ty m' c', m' = k - i → (Builtin.append_ #[66, 66] ty #[.slice (some ⟨b, 0, none⟩) i c, .slice (some Ad) m' c']).run Try.prog w.drew = .ok (.slice (some ⟨b, 0, none⟩) k c) W1 := fun ty m' c' hm => by
    subst hm
    have h := run_appendR (P := Try.prog) delU72 hinf w.drew hmem hf i c ty Ad (k - i) c' cs (by rw [hsz]; exact hcl) hsrc h1c (by omega) (by rw [hsize, hsz])
    rw [hsz] at h
    rw [h, hW1, hA1, show i + (k - i) = k by omega]
  have hclr : ∀ ty m' c', m' = 1 → (Builtin.clear_ #[66] ty #[.slice (some ⟨b, k * 2, none⟩) m' c']).run Try.prog W1 = .ok (.tuple #[]) (W1.setRow b A2) := fun ty m' c' hm => by
    subst hm
    rw [hA2]
    exact run_clearR (P := Try.prog) delU72 hinf hzz W1 hm1 (by rw [hA1s]; exact hf) (k * 2) c' ty hz1 (by simp [hzs]; rw [hA1s, hsize]; omega)
  have hic : i ≤ c := by omega
  have hjc : i + 1 ≤ c := by omega
  have hb3 : ¬ (c = k) := by omega
  have hb1 : (0 : Int) ≤ (i : Int) + 1 := by omega
  have hb4 : ((k + 1 : Nat) : Int) = (k : Int) + 1 := by omega
  have hb5 : (0 : Int) ≤ (k : Int) := by omega
  have hb6 : (k : Int) ≤ (k : Int) + 1 := by omega
  have hb7 : (k : Int) + 1 ≤ (c : Int) := by omega
  have hb8 : (i : Int) + 1 ≤ (k : Int) + 1 := by omega
  have hb2 : (i : Int) + 1 ≤ ((k + 1 : Nat) : Int) := by omega
  rw [← hW1]
  clear hcs hA1 hA2 hW1 hm1 hsrc hcl
  go_enter Try.func72, Try.ntmps72
  go_wp2_with fail
  go_region_law_o (refine step_append_runR rfl _ _ 66 66 rfl (.slice (some ⟨b, 0, none⟩) i c) (.slice (some Ad) (k - i) (c - (i + 1))) (by simp [Act.eval, Act.put]) (by simp [Act.eval, Act.put]) (hap _ _ _ rfl) ?_)
  go_wp2
  go_ret
  exact ⟨rfl, rfl⟩
theorem delF72 : DelF Try.prog 72 2 := by
  intro w b i n c arr tb fz hmem hsize hf h1c hi hnc hn
  obtain ⟨inf, z, hinf, hsz, hzz, hzs, hz1⟩ := delE72
  obtain ⟨k, rfl⟩ : ∃ k, n = k + 1 := ⟨n - 1, by omega⟩
  simp only [Nat.add_sub_cancel]
  obtain ⟨cs, hcs⟩ : ∃ cs, cs = (arr.toList.take ((k + 1) * 2)).drop ((i + 1) * 2) := ⟨_, rfl⟩
  have hsl : arr.toList.length = arr.size := Array.length_toList
  have hcl : cs.length = (k - i) * 2 := by rw [hcs, List.length_drop, List.length_take, hsl, hsize]; omega
  have hzl : z.cells.toList.length = 2 := by rw [Array.length_toList, hzs]
  refine (delW72 hinf hsz hzz hzs hz1 w b i k c arr tb fz cs hmem hf hi hnc hn hsize hcs (fun u hu => h1c u (by rw [hcs] at hu; exact List.mem_of_mem_drop hu)) _ _ rfl rfl).mono fun x w' => ?_
  rintro ⟨rfl, rfl⟩
  have hA1s : (arr.toList.take (i * 2) ++ (cs ++ arr.toList.drop (i * 2 + cs.length))).toArray.size = arr.size := by simp [hcl]; omega
  have hm1 := setRow_heap w.drew b arr (arr.toList.take (i * 2) ++ (cs ++ arr.toList.drop (i * 2 + cs.length))).toArray tb fz hmem
  have hA1t : (arr.toList.take (i * 2) ++ (cs ++ arr.toList.drop (i * 2 + cs.length))).toArray.toList.take (k * 2) = arr.toList.take (i * 2) ++ cs := by
    rw [List.toList_toArray, ← List.append_assoc]
    exact List.take_left' (by rw [List.length_append, List.length_take, hcl, hsl, hsize]; omega)
  generalize hA1 : (arr.toList.take (i * 2) ++ (cs ++ arr.toList.drop (i * 2 + cs.length))).toArray = A1 at *
  have hA1l : A1.toList.length = A1.size := Array.length_toList
  have hA2s : (A1.toList.take (k * 2) ++ (z.cells.toList ++ A1.toList.drop (k * 2 + z.cells.toList.length))).toArray.size = A1.size := by simp only [List.size_toArray, List.length_append, List.length_take, List.length_drop, hzl, hA1l, hA1s, hsize]; omega
  have hm2 := setRow_heap (w.drew.setRow b A1) b A1 (A1.toList.take (k * 2) ++ (z.cells.toList ++ A1.toList.drop (k * 2 + z.cells.toList.length))).toArray tb fz hm1
  refine ⟨rfl, rfl, rfl, rfl, _, hm2, by rw [hA2s, hA1s], ?_, by simp [World.setRow], fun j hj => ?_⟩
  · rw [List.toList_toArray, List.take_left' (by rw [List.length_take, hA1l, hA1s, hsize]; omega), hA1t, hcs]
  · rw [setRow_other _ _ _ _ hj, setRow_other _ _ _ _ hj]; rfl

noncomputable def con_law14_begun (N : Nat) : Con := ⟨52, [], [], Unit, fun _ => some (), fun _ => (.bs true, [], [])⟩
theorem con_law14_begun_ok (N : Nat) : Con.ok P0 (con_law14_begun N) := closed_con2 (nonJ_ok _) mixed progOk_ (noneΞ_ok2 _) (inl := [16,17,41,56,58,64,72,91]) (breath := 100000) (n := 60) (by kernel_rfl)
def as_slices_Clone_api_Item : List AS := [.val (.list (.agg (.pair (.int .i64) .str)))]
def bs_slices_Clone_api_Item : List BS := []
def pout_slices_Clone_api_Item : Pat := ⟨[(2, .acc 700005)], [(700005, .nrow 69 (.agg (.pair (.int .i64) .str)) false true)]⟩
noncomputable def G_slices_Clone_api_Item  (N : Nat) : OrcT := orcOf []
noncomputable def F_slices_Clone_api_Item  (N : Nat) (x : List (Int × List UInt8)) : Option (List (Int × List UInt8)) :=
  (evT (G_slices_Clone_api_Item  N) L0 P0 []
    [] N 400 (bodyOf Try.f71) ⟨8, slots 0 [.nl ⟨(.agg (.pair (.int .i64) .str)), x⟩], tabU (lbOf as_slices_Clone_api_Item bs_slices_Clone_api_Item x) [], []⟩).elim (kRet 8 pout_slices_Clone_api_Item (kpL []) (lbOf as_slices_Clone_api_Item bs_slices_Clone_api_Item x))
def out_slices_Clone_api_Item (y : List (Int × List UInt8)) : V × List OK × List OK := (.acc 2000000 0, [], [.nrow 69 false true ⟨(.agg (.pair (.int .i64) .str)), y⟩])
noncomputable def V_slices_Clone_api_Item  (N : Nat) (x : List (Int × List UInt8)) : Option (List (Int × List UInt8)) :=
  cnd (decide (List.length x * (24 : Nat) ≤ (140737488355328 : Nat))) (some x) none
theorem FV_slices_Clone_api_Item_eq  (N : Nat) (x : List (Int × List UInt8)) : F_slices_Clone_api_Item  N x = V_slices_Clone_api_Item  N x := by kernel_rfl
noncomputable def W_slices_Clone_api_Item (N : Nat) (x : List (Int × List UInt8)) : Option (List (Int × List UInt8)) :=
  cnd (decide (List.length x * (24 : Nat) ≤ (140737488355328 : Nat))) (some x) none
theorem F_slices_Clone_api_Item_eq (N : Nat) (x : List (Int × List UInt8)) : F_slices_Clone_api_Item  N x = W_slices_Clone_api_Item N x := (FV_slices_Clone_api_Item_eq  N x).trans (by kernel_rfl)
noncomputable def conw_slices_Clone_api_Item (w : List (Int × List UInt8) → Option (List (Int × List UInt8))) : Con := ⟨71, as_slices_Clone_api_Item, bs_slices_Clone_api_Item, List (Int × List UInt8), w, out_slices_Clone_api_Item⟩
noncomputable def con_slices_Clone_api_Item (N : Nat) : Con := conw_slices_Clone_api_Item (W_slices_Clone_api_Item N)
theorem R_slices_Clone_api_Item_eq (x : List (Int × List UInt8)) (y : List (Int × List UInt8)) : retOf2 P0 Try.f71 (kpL []) (lbOf as_slices_Clone_api_Item bs_slices_Clone_api_Item x) (patS ⟨8, [], [], []⟩ pout_slices_Clone_api_Item y) = some (out_slices_Clone_api_Item y) := by kernel_rfl
noncomputable def FA_slices_Clone_api_Item : Option (List (Int × List UInt8)) := (evT (G_slices_Clone_api_Item 1) L0 P0 [] [] 1 400 (bodyOf Try.f71) ⟨8, slots 0 [.snil], tabU [] [], []⟩).elim (kRet 8 pout_slices_Clone_api_Item (kpL []) [])
theorem FA_slices_Clone_api_Item_eq : FA_slices_Clone_api_Item = some [] := by kernel_rfl
theorem WN_slices_Clone_api_Item (N : Nat) (r : List (Int × List UInt8)) (h : W_slices_Clone_api_Item N [] = some r) : r = [] := by
  have e : W_slices_Clone_api_Item N [] = some [] := by kernel_rfl
  rw [e] at h; injection h with h; exact h.symm
theorem con_slices_Clone_api_Item_ok (N : Nat) : Con.ok P0 (con_slices_Clone_api_Item N) := ⟨⟨Try.f71, Try.func71, by kernel_rfl, by kernel_rfl⟩, fun (x : List (Int × List UInt8)) (r : List (Int × List UInt8)) (hr : W_slices_Clone_api_Item N x = some r) =>
  clone_split (e := (.agg (.pair (.int .i64) .str))) (ty := 69) (l := x) (r := r)
    (spec2_evT (Γ := G_slices_Clone_api_Item 1) (Λ := L0) (lb := []) (pout := pout_slices_Clone_api_Item) (kp := kpL []) mixed (orcOf_ok [] (by simp)) Try.func71 (c := bodyOf Try.f71) (by kernel_rfl) (by kernel_rfl) (of_decide_eq_true (by kernel_rfl)) FA_slices_Clone_api_Item_eq (R_slices_Clone_api_Item_eq x []))
    (spec2_evT (Γ := G_slices_Clone_api_Item N) (Λ := L0) (lb := []) (pout := pout_slices_Clone_api_Item) (kp := kpL []) mixed (orcOf_ok [] (by simp)) Try.func71 (c := bodyOf Try.f71) (by kernel_rfl) (by kernel_rfl) (of_decide_eq_true (by kernel_rfl)) ((F_slices_Clone_api_Item_eq N x).trans hr) (R_slices_Clone_api_Item_eq x r))
    (fun h => by subst h; exact WN_slices_Clone_api_Item N r hr)⟩
def as_slices_Delete_api_Item : List AS := [.acc 0, .val (.int .i64), .val (.int .i64)]
def bs_slices_Delete_api_Item : List BS := [.nrow 69 (.agg (.pair (.int .i64) .str)) true]
def out_slices_Delete_api_Item (y : List (Int × List UInt8)) : V × List OK × List OK := (.acc 2000000 0, [.dead], [.nrow 69 false true ⟨(.agg (.pair (.int .i64) .str)), y⟩])
noncomputable def W_slices_Delete_api_Item (N : Nat) (x : Int × Int × List (Int × List UInt8)) : Option (List (Int × List UInt8)) :=
  cnd (decide ((0 : Int) ≤ Prod.fst x) && decide (Prod.fst x < ((↑(List.length (Prod.snd (Prod.snd x))) : Int) : Int)) && decide (Prod.fst (Prod.snd x) = Prod.fst x + (1 : Int)) && decide (List.length (Prod.snd (Prod.snd x)) ≤ (140737488355328 : Nat)) && decide ((2 : Nat) ≤ List.length (Prod.snd (Prod.snd x)))) (some (List.take (Int.toNat (Prod.fst x)) (Prod.snd (Prod.snd x)) ++ List.drop (Int.toNat (Prod.fst x) + (1 : Nat)) (Prod.snd (Prod.snd x)))) none
noncomputable def conw_slices_Delete_api_Item (w : Int × Int × List (Int × List UInt8) → Option (List (Int × List UInt8))) : Con := ⟨72, as_slices_Delete_api_Item, bs_slices_Delete_api_Item, List (Int × List UInt8), w, out_slices_Delete_api_Item⟩
noncomputable def con_slices_Delete_api_Item (N : Nat) : Con := conw_slices_Delete_api_Item (W_slices_Delete_api_Item N)
theorem con_slices_Delete_api_Item_ok (N : Nat) : Con.ok P0 (con_slices_Delete_api_Item N) := ⟨⟨Try.f72, Try.func72, by kernel_rfl, by kernel_rfl⟩, fun (x : Int × Int × List (Int × List UInt8)) (r : List (Int × List UInt8)) (hr : W_slices_Delete_api_Item N x = some r) => by
  obtain ⟨i, j, l⟩ := x
  exact del_con2 (e := (.agg (.pair (.int .i64) .str))) (ty := 69) (nl := true) (l := l) (r := r) (i := i) (j := j) delF72 rfl (by decide) hr⟩
def as_ring_Add : List AS := [.val (.list (.agg (.pair (.int .i64) .str))), .val (.agg (.pair (.int .i64) .str))]
def bs_ring_Add : List BS := []
def pout_ring_Add : Pat := ⟨[(4, .val (.list (.agg (.pair (.int .i64) .str))))], []⟩
noncomputable def G_ring_Add (w_slices_Clone_api_Item : List (Int × List UInt8) → Option (List (Int × List UInt8))) (w_slices_Delete_api_Item : Int × Int × List (Int × List UInt8) → Option (List (Int × List UInt8))) (N : Nat) : OrcT := orcOf [conw_slices_Clone_api_Item w_slices_Clone_api_Item, conw_slices_Delete_api_Item w_slices_Delete_api_Item]
noncomputable def F_ring_Add (w_slices_Clone_api_Item : List (Int × List UInt8) → Option (List (Int × List UInt8))) (w_slices_Delete_api_Item : Int × Int × List (Int × List UInt8) → Option (List (Int × List UInt8))) (N : Nat) (x : (List (Int × List UInt8)) × Int × List UInt8) : Option (List (Int × List UInt8)) :=
  (evT (G_ring_Add w_slices_Clone_api_Item w_slices_Delete_api_Item N) L0 P0 []
    [] N 400 (bodyOf Try.f53) ⟨34, slots 0 (argsOf as_ring_Add bs_ring_Add x), tabU (lbOf as_ring_Add bs_ring_Add x) [], []⟩).elim (kRet 34 pout_ring_Add (kpL []) (lbOf as_ring_Add bs_ring_Add x))
def out_ring_Add (y : List (Int × List UInt8)) : V × List OK × List OK := (valW (.list (.agg (.pair (.int .i64) .str))) y, [], [])
noncomputable def V_ring_Add (w_slices_Clone_api_Item : List (Int × List UInt8) → Option (List (Int × List UInt8))) (w_slices_Delete_api_Item : Int × Int × List (Int × List UInt8) → Option (List (Int × List UInt8))) (N : Nat) (x : (List (Int × List UInt8)) × Int × List UInt8) : Option (List (Int × List UInt8)) :=
  obind (w_slices_Clone_api_Item (Prod.fst x)) fun (b : List (Int × List UInt8)) =>
    cnd (decide ((0 : Int) < (↑(List.length (Prod.fst x)) : Int)))
      (cnd
        (decide ((0 : Int) ≤ wr IntKind.i64 ((↑(List.length (Prod.fst x)) : Int) - (1 : Int))) &&
          decide (wr IntKind.i64 ((↑(List.length (Prod.fst x)) : Int) - (1 : Int)) < (↑(List.length (Prod.fst x)) : Int)))
        (cnd
          (decide
            (Prod.fst (Prod.snd x) ≤
              Prod.fst
                (List.getD (Prod.fst x) (Int.toNat (wr IntKind.i64 ((↑(List.length (Prod.fst x)) : Int) - (1 : Int))))
                  ((0 : Int), []))))
          (some b)
          (cnd
            (decide
              ((List.length b + List.length [(Prod.fst (Prod.snd x), Prod.snd (Prod.snd x))]) * (24 : Nat) ≤
                (140737488355328 : Nat)))
            (cnd (decide ((6 : Int) < (↑(List.length (b ++ [(Prod.fst (Prod.snd x), Prod.snd (Prod.snd x))])) : Int)))
              (obind
                (w_slices_Delete_api_Item ((0 : Int), (1 : Int), b ++ [(Prod.fst (Prod.snd x), Prod.snd (Prod.snd x))]))
                fun (b : List (Int × List UInt8)) => some b)
              (some (b ++ [(Prod.fst (Prod.snd x), Prod.snd (Prod.snd x))])))
            none))
        none)
      (cnd
        (decide
          ((List.length b + List.length [(Prod.fst (Prod.snd x), Prod.snd (Prod.snd x))]) * (24 : Nat) ≤
            (140737488355328 : Nat)))
        (cnd (decide ((6 : Int) < (↑(List.length (b ++ [(Prod.fst (Prod.snd x), Prod.snd (Prod.snd x))])) : Int)))
          (obind
            (w_slices_Delete_api_Item ((0 : Int), (1 : Int), b ++ [(Prod.fst (Prod.snd x), Prod.snd (Prod.snd x))]))
            fun (b : List (Int × List UInt8)) => some b)
          (some (b ++ [(Prod.fst (Prod.snd x), Prod.snd (Prod.snd x))])))
        none)
theorem FV_ring_Add_eq (w_slices_Clone_api_Item : List (Int × List UInt8) → Option (List (Int × List UInt8))) (w_slices_Delete_api_Item : Int × Int × List (Int × List UInt8) → Option (List (Int × List UInt8))) (N : Nat) (x : (List (Int × List UInt8)) × Int × List UInt8) : F_ring_Add w_slices_Clone_api_Item w_slices_Delete_api_Item N x = V_ring_Add w_slices_Clone_api_Item w_slices_Delete_api_Item N x := by kernel_rfl
noncomputable def W_ring_Add (N : Nat) (x : (List (Int × List UInt8)) × Int × List UInt8) : Option (List (Int × List UInt8)) :=
  obind (W_slices_Clone_api_Item N (Prod.fst x)) fun (b : List (Int × List UInt8)) =>
    cnd (decide ((0 : Int) < (↑(List.length (Prod.fst x)) : Int)))
      (cnd
        (decide ((0 : Int) ≤ wr IntKind.i64 ((↑(List.length (Prod.fst x)) : Int) - (1 : Int))) &&
          decide (wr IntKind.i64 ((↑(List.length (Prod.fst x)) : Int) - (1 : Int)) < (↑(List.length (Prod.fst x)) : Int)))
        (cnd
          (decide
            (Prod.fst (Prod.snd x) ≤
              Prod.fst
                (List.getD (Prod.fst x) (Int.toNat (wr IntKind.i64 ((↑(List.length (Prod.fst x)) : Int) - (1 : Int))))
                  ((0 : Int), []))))
          (some b)
          (cnd
            (decide
              ((List.length b + List.length [(Prod.fst (Prod.snd x), Prod.snd (Prod.snd x))]) * (24 : Nat) ≤
                (140737488355328 : Nat)))
            (cnd (decide ((6 : Int) < (↑(List.length (b ++ [(Prod.fst (Prod.snd x), Prod.snd (Prod.snd x))])) : Int)))
              (obind
                (W_slices_Delete_api_Item N ((0 : Int), (1 : Int), b ++ [(Prod.fst (Prod.snd x), Prod.snd (Prod.snd x))]))
                fun (b : List (Int × List UInt8)) => some b)
              (some (b ++ [(Prod.fst (Prod.snd x), Prod.snd (Prod.snd x))])))
            none))
        none)
      (cnd
        (decide
          ((List.length b + List.length [(Prod.fst (Prod.snd x), Prod.snd (Prod.snd x))]) * (24 : Nat) ≤
            (140737488355328 : Nat)))
        (cnd (decide ((6 : Int) < (↑(List.length (b ++ [(Prod.fst (Prod.snd x), Prod.snd (Prod.snd x))])) : Int)))
          (obind
            (W_slices_Delete_api_Item N ((0 : Int), (1 : Int), b ++ [(Prod.fst (Prod.snd x), Prod.snd (Prod.snd x))]))
            fun (b : List (Int × List UInt8)) => some b)
          (some (b ++ [(Prod.fst (Prod.snd x), Prod.snd (Prod.snd x))])))
        none)
theorem F_ring_Add_eq (N : Nat) (x : (List (Int × List UInt8)) × Int × List UInt8) : F_ring_Add (W_slices_Clone_api_Item N) (W_slices_Delete_api_Item N) N x = W_ring_Add N x := (FV_ring_Add_eq (W_slices_Clone_api_Item N) (W_slices_Delete_api_Item N) N x).trans (by kernel_rfl)
noncomputable def conw_ring_Add (w : (List (Int × List UInt8)) × Int × List UInt8 → Option (List (Int × List UInt8))) : Con := ⟨53, as_ring_Add, bs_ring_Add, List (Int × List UInt8), w, out_ring_Add⟩
noncomputable def con_ring_Add (N : Nat) : Con := conw_ring_Add (W_ring_Add N)
theorem R_ring_Add_eq (x : (List (Int × List UInt8)) × Int × List UInt8) (y : List (Int × List UInt8)) : retOf2 P0 Try.f53 (kpL []) (lbOf as_ring_Add bs_ring_Add x) (patS ⟨34, [], [], []⟩ pout_ring_Add y) = some (out_ring_Add y) := by kernel_rfl
theorem con_ring_Add_ok (N : Nat) : Con.ok P0 (con_ring_Add N) := ⟨⟨Try.f53, Try.func53, by kernel_rfl, by kernel_rfl⟩, fun (x : (List (Int × List UInt8)) × Int × List UInt8) (r : List (Int × List UInt8)) (hr : W_ring_Add N x = some r) =>
  spec2_evT (Γ := G_ring_Add (W_slices_Clone_api_Item N) (W_slices_Delete_api_Item N) N) (Λ := L0) (pout := pout_ring_Add) (kp := kpL []) mixed (orcOf_ok _ (by simp only [List.mem_cons, List.not_mem_nil, or_false, forall_eq_or_imp, forall_eq]; exact ⟨con_slices_Clone_api_Item_ok N, con_slices_Delete_api_Item_ok N⟩)) Try.func53 (c := bodyOf Try.f53) (by kernel_rfl) (by kernel_rfl) (of_decide_eq_true (by kernel_rfl)) ((F_ring_Add_eq N x).trans hr) (R_ring_Add_eq x r)⟩
def as_ref13_SameItems : List AS := [.val (.list (.agg (.pair (.int .i64) .str))), .val (.list (.agg (.pair (.int .i64) .str)))]
def bs_ref13_SameItems : List BS := []
def pout_ref13_SameItems : Pat := ⟨[(4, .val .bool)], []⟩
noncomputable def G_ref13_SameItems  (N : Nat) : OrcT := orcOf []
noncomputable def F_ref13_SameItems  (N : Nat) (x : (List (Int × List UInt8)) × List (Int × List UInt8)) : Option (Bool) :=
  (evT (G_ref13_SameItems  N) L0 P0 [(4, .loop [] ⟨[(5, .val (.int .i64))], []⟩ [(.exit 0, ⟨[], []⟩), (.ret, ⟨[(4, .val .bool)], []⟩)])]
    [] N 400 (bodyOf Try.f55) ⟨26, slots 0 (argsOf as_ref13_SameItems bs_ref13_SameItems x), tabU (lbOf as_ref13_SameItems bs_ref13_SameItems x) [], []⟩).elim (kRet 26 pout_ref13_SameItems (kpL []) (lbOf as_ref13_SameItems bs_ref13_SameItems x))
def out_ref13_SameItems (y : Bool) : V × List OK × List OK := (valW .bool y, [], [])
noncomputable def V_ref13_SameItems  (N : Nat) (x : (List (Int × List UInt8)) × List (Int × List UInt8)) : Option (Bool) :=
  cnd (decide ((↑(List.length (Prod.fst x)) : Int) ≠ (↑(List.length (Prod.snd x)) : Int))) (some false)
    (obind
      (loopN N
        (fun (v : Int) =>
          cnd (decide (v < (↑(List.length (Prod.fst x)) : Int)))
            (cnd (decide ((0 : Int) ≤ v) && decide (v < (↑(List.length (Prod.fst x)) : Int)))
              (cnd (decide ((0 : Int) ≤ v) && decide (v < (↑(List.length (Prod.snd x)) : Int)))
                (cnd
                  (!(decide
                        (Prod.fst (List.getD (Prod.fst x) (Int.toNat v) ((0 : Int), [])) =
                          Prod.fst (List.getD (Prod.snd x) (Int.toNat v) ((0 : Int), []))) &&
                      Prod.snd (List.getD (Prod.fst x) (Int.toNat v) ((0 : Int), [])) ==
                        Prod.snd (List.getD (Prod.snd x) (Int.toNat v) ((0 : Int), []))))
                  (some (Sum.inr (Sum.inr false))) (some (Sum.inl (wr IntKind.i64 (v + (1 : Int))))))
                none)
              none)
            (some (Sum.inr (Sum.inl ()))))
        (Int.ofNat (0 : Nat)))
      fun (b : PUnit ⊕ Bool) => selim (fun (b : PUnit) => some true) (fun (c : Bool) => some c) b)
theorem FV_ref13_SameItems_eq  (N : Nat) (x : (List (Int × List UInt8)) × List (Int × List UInt8)) : F_ref13_SameItems  N x = V_ref13_SameItems  N x := by kernel_rfl
noncomputable def W_ref13_SameItems (N : Nat) (x : (List (Int × List UInt8)) × List (Int × List UInt8)) : Option (Bool) :=
  cnd (decide ((↑(List.length (Prod.fst x)) : Int) ≠ (↑(List.length (Prod.snd x)) : Int))) (some false)
    (obind
      (loopN N
        (fun (v : Int) =>
          cnd (decide (v < (↑(List.length (Prod.fst x)) : Int)))
            (cnd (decide ((0 : Int) ≤ v) && decide (v < (↑(List.length (Prod.fst x)) : Int)))
              (cnd (decide ((0 : Int) ≤ v) && decide (v < (↑(List.length (Prod.snd x)) : Int)))
                (cnd
                  (!(decide
                        (Prod.fst (List.getD (Prod.fst x) (Int.toNat v) ((0 : Int), [])) =
                          Prod.fst (List.getD (Prod.snd x) (Int.toNat v) ((0 : Int), []))) &&
                      Prod.snd (List.getD (Prod.fst x) (Int.toNat v) ((0 : Int), [])) ==
                        Prod.snd (List.getD (Prod.snd x) (Int.toNat v) ((0 : Int), []))))
                  (some (Sum.inr (Sum.inr false))) (some (Sum.inl (wr IntKind.i64 (v + (1 : Int))))))
                none)
              none)
            (some (Sum.inr (Sum.inl ()))))
        (Int.ofNat (0 : Nat)))
      fun (b : PUnit ⊕ Bool) => selim (fun (b : PUnit) => some true) (fun (c : Bool) => some c) b)
theorem F_ref13_SameItems_eq (N : Nat) (x : (List (Int × List UInt8)) × List (Int × List UInt8)) : F_ref13_SameItems  N x = W_ref13_SameItems N x := (FV_ref13_SameItems_eq  N x).trans (by kernel_rfl)
noncomputable def conw_ref13_SameItems (w : (List (Int × List UInt8)) × List (Int × List UInt8) → Option (Bool)) : Con := ⟨55, as_ref13_SameItems, bs_ref13_SameItems, Bool, w, out_ref13_SameItems⟩
noncomputable def con_ref13_SameItems (N : Nat) : Con := conw_ref13_SameItems (W_ref13_SameItems N)
theorem R_ref13_SameItems_eq (x : (List (Int × List UInt8)) × List (Int × List UInt8)) (y : Bool) : retOf2 P0 Try.f55 (kpL []) (lbOf as_ref13_SameItems bs_ref13_SameItems x) (patS ⟨26, [], [], []⟩ pout_ref13_SameItems y) = some (out_ref13_SameItems y) := by kernel_rfl
theorem con_ref13_SameItems_ok (N : Nat) : Con.ok P0 (con_ref13_SameItems N) := ⟨⟨Try.f55, Try.func55, by kernel_rfl, by kernel_rfl⟩, fun (x : (List (Int × List UInt8)) × List (Int × List UInt8)) (r : Bool) (hr : W_ref13_SameItems N x = some r) =>
  spec2_evT (Γ := G_ref13_SameItems N) (Λ := L0) (pout := pout_ref13_SameItems) (kp := kpL []) mixed (orcOf_ok [] (by simp)) Try.func55 (c := bodyOf Try.f55) (by kernel_rfl) (by kernel_rfl) (of_decide_eq_true (by kernel_rfl)) ((F_ref13_SameItems_eq N x).trans hr) (R_ref13_SameItems_eq x r)⟩
def as_law14_RingTurns : List AS := [.val (.list (.int .u8)), .val (.list (.int .u8)), .val (.agg (.pair (.int .u8) (.pair (.int .u8) (.pair (.int .u8) (.pair (.int .u8) (.pair (.int .u8) (.int .u8)))))))]
def bs_law14_RingTurns : List BS := []
def pout_law14_RingTurns : Pat := ⟨[(6, .val .bool)], []⟩
noncomputable def G_law14_RingTurns (w_ring_Add : (List (Int × List UInt8)) × Int × List UInt8 → Option (List (Int × List UInt8))) (w_ref13_SameItems : (List (Int × List UInt8)) × List (Int × List UInt8) → Option (Bool)) (N : Nat) : OrcT := orcOf [con_law14_begun N, conw_ring_Add w_ring_Add, conw_ref13_SameItems w_ref13_SameItems]
noncomputable def F_law14_RingTurns (w_ring_Add : (List (Int × List UInt8)) × Int × List UInt8 → Option (List (Int × List UInt8))) (w_ref13_SameItems : (List (Int × List UInt8)) × List (Int × List UInt8) → Option (Bool)) (N : Nat) (x : (List Int) × (List Int) × Int × Int × Int × Int × Int × Int) : Option (Bool) :=
  (evT (G_law14_RingTurns w_ring_Add w_ref13_SameItems N) L0 P0 [(7, .loop [8] ⟨[(5, .ptr 600005 0), (7, .val (.list (.agg (.pair (.int .i64) .str)))), (9, .val (.int .i64))], [(600005, .box 72 (.val (.pair (.int .u8) (.pair (.int .u8) (.pair (.int .u8) (.pair (.int .u8) (.pair (.int .u8) (.int .u8))))))))]⟩ [(.exit 0, ⟨[(5, .ptr 600005 0), (7, .val (.list (.agg (.pair (.int .i64) .str))))], [(600005, .box 72 (.val (.pair (.int .u8) (.pair (.int .u8) (.pair (.int .u8) (.pair (.int .u8) (.pair (.int .u8) (.int .u8))))))))]⟩)]),
    (11, .loop [7] ⟨[(5, .ptr 600005 0), (8, .val (.list (.agg (.pair (.int .i64) .str)))), (10, .val (.int .i64))], [(600005, .box 72 (.val (.pair (.int .u8) (.pair (.int .u8) (.pair (.int .u8) (.pair (.int .u8) (.pair (.int .u8) (.int .u8))))))))]⟩ [(.exit 2, ⟨[(5, .ptr 600005 0), (8, .val (.list (.agg (.pair (.int .i64) .str))))], [(600005, .box 72 (.val (.pair (.int .u8) (.pair (.int .u8) (.pair (.int .u8) (.pair (.int .u8) (.pair (.int .u8) (.int .u8))))))))]⟩)]),
    (15, .unroll 7)]
    [(1000019, .reg [(8, [7], ⟨[(90, .val .bool)], []⟩)])] N 400 (bodyOf Try.f14) ⟨98, slots 0 (argsOf as_law14_RingTurns bs_law14_RingTurns x), tabU (lbOf as_law14_RingTurns bs_law14_RingTurns x) [], []⟩).elim (kRet 98 pout_law14_RingTurns (kpL []) (lbOf as_law14_RingTurns bs_law14_RingTurns x))
def out_law14_RingTurns (y : Bool) : V × List OK × List OK := (valW .bool y, [], [])
noncomputable def V_law14_RingTurns (w_ring_Add : (List (Int × List UInt8)) × Int × List UInt8 → Option (List (Int × List UInt8))) (w_ref13_SameItems : (List (Int × List UInt8)) × List (Int × List UInt8) → Option (Bool)) (N : Nat) (x : (List Int) × (List Int) × Int × Int × Int × Int × Int × Int) : Option (Bool) :=
  cnd (decide ((12 : Int) < (↑(List.length (Prod.fst x)) : Int))) (some true)
    (cnd (decide ((12 : Int) < (↑(List.length (Prod.fst (Prod.snd x))) : Int))) (some true)
      (obind
        (loopN N
          (fun (v : List (Int × List UInt8) × Int × Int × Int × Int × Int × Int × Int) =>
            cnd (decide (Prod.fst (Prod.snd v) < (↑(List.length (Prod.fst x)) : Int)))
              (cnd
                (decide ((0 : Int) ≤ Prod.fst (Prod.snd v)) &&
                  decide (Prod.fst (Prod.snd v) < (↑(List.length (Prod.fst x)) : Int)))
                (cnd
                  (List.all
                    [wr IntKind.u8
                        ((97 : Int) +
                          Int.tmod (List.getD (Prod.fst x) (Int.toNat (Prod.fst (Prod.snd v))) (0 : Int)) (26 : Int))]
                    fun (n : Int) => decide ((0 : Int) ≤ n) && decide (n < (256 : Int)))
                  (obind
                    (w_ring_Add
                      (Prod.fst v, wr IntKind.i64 ((1 : Int) + Prod.fst (Prod.snd v)),
                        bytesI
                          [wr IntKind.u8
                              ((97 : Int) +
                                Int.tmod (List.getD (Prod.fst x) (Int.toNat (Prod.fst (Prod.snd v))) (0 : Int))
                                  (26 : Int))]))
                    fun (b : List (Int × List UInt8)) =>
                    some
                      (Sum.inl
                        (b, wr IntKind.i64 (Prod.fst (Prod.snd v) + (1 : Int)), Prod.fst (Prod.snd (Prod.snd v)),
                          Prod.fst (Prod.snd (Prod.snd (Prod.snd v))),
                          Prod.fst (Prod.snd (Prod.snd (Prod.snd (Prod.snd v)))),
                          Prod.fst (Prod.snd (Prod.snd (Prod.snd (Prod.snd (Prod.snd v))))),
                          Prod.fst (Prod.snd (Prod.snd (Prod.snd (Prod.snd (Prod.snd (Prod.snd v)))))),
                          Prod.snd (Prod.snd (Prod.snd (Prod.snd (Prod.snd (Prod.snd (Prod.snd v)))))))))
                  none)
                none)
              (some
                (Sum.inr
                  (Prod.fst v, Prod.fst (Prod.snd (Prod.snd v)), Prod.fst (Prod.snd (Prod.snd (Prod.snd v))),
                    Prod.fst (Prod.snd (Prod.snd (Prod.snd (Prod.snd v)))),
                    Prod.fst (Prod.snd (Prod.snd (Prod.snd (Prod.snd (Prod.snd v))))),
                    Prod.fst (Prod.snd (Prod.snd (Prod.snd (Prod.snd (Prod.snd (Prod.snd v)))))),
                    Prod.snd (Prod.snd (Prod.snd (Prod.snd (Prod.snd (Prod.snd (Prod.snd v))))))))))
          ([], (0 : Int), Prod.fst (Prod.snd (Prod.snd x)), Prod.fst (Prod.snd (Prod.snd (Prod.snd x))),
            Prod.fst (Prod.snd (Prod.snd (Prod.snd (Prod.snd x)))),
            Prod.fst (Prod.snd (Prod.snd (Prod.snd (Prod.snd (Prod.snd x))))),
            Prod.fst (Prod.snd (Prod.snd (Prod.snd (Prod.snd (Prod.snd (Prod.snd x)))))),
            Prod.snd (Prod.snd (Prod.snd (Prod.snd (Prod.snd (Prod.snd (Prod.snd x))))))))
        fun (b : List (Int × List UInt8) × Int × Int × Int × Int × Int × Int) =>
        obind
          (loopN N
            (fun (v : List (Int × List UInt8) × Int × Int × Int × Int × Int × Int × Int) =>
              cnd (decide (Prod.fst (Prod.snd v) < (↑(List.length (Prod.fst (Prod.snd x))) : Int)))
                (cnd
                  (decide ((0 : Int) ≤ Prod.fst (Prod.snd v)) &&
                    decide (Prod.fst (Prod.snd v) < (↑(List.length (Prod.fst (Prod.snd x))) : Int)))
                  (cnd
                    (List.all
                      [wr IntKind.u8
                          ((97 : Int) +
                            Int.tmod (List.getD (Prod.fst (Prod.snd x)) (Int.toNat (Prod.fst (Prod.snd v))) (0 : Int))
                              (26 : Int))]
                      fun (n : Int) => decide ((0 : Int) ≤ n) && decide (n < (256 : Int)))
                    (obind
                      (w_ring_Add
                        (Prod.fst v, wr IntKind.i64 ((1 : Int) + wr IntKind.i64 ((2 : Int) * Prod.fst (Prod.snd v))),
                          bytesI
                            [wr IntKind.u8
                                ((97 : Int) +
                                  Int.tmod
                                    (List.getD (Prod.fst (Prod.snd x)) (Int.toNat (Prod.fst (Prod.snd v))) (0 : Int))
                                    (26 : Int))]))
                      fun (b : List (Int × List UInt8)) =>
                      some
                        (Sum.inl
                          (b, wr IntKind.i64 (Prod.fst (Prod.snd v) + (1 : Int)), Prod.fst (Prod.snd (Prod.snd v)),
                            Prod.fst (Prod.snd (Prod.snd (Prod.snd v))),
                            Prod.fst (Prod.snd (Prod.snd (Prod.snd (Prod.snd v)))),
                            Prod.fst (Prod.snd (Prod.snd (Prod.snd (Prod.snd (Prod.snd v))))),
                            Prod.fst (Prod.snd (Prod.snd (Prod.snd (Prod.snd (Prod.snd (Prod.snd v)))))),
                            Prod.snd (Prod.snd (Prod.snd (Prod.snd (Prod.snd (Prod.snd (Prod.snd v)))))))))
                    none)
                  none)
                (some
                  (Sum.inr
                    (Prod.fst v, Prod.fst (Prod.snd (Prod.snd v)), Prod.fst (Prod.snd (Prod.snd (Prod.snd v))),
                      Prod.fst (Prod.snd (Prod.snd (Prod.snd (Prod.snd v)))),
                      Prod.fst (Prod.snd (Prod.snd (Prod.snd (Prod.snd (Prod.snd v))))),
                      Prod.fst (Prod.snd (Prod.snd (Prod.snd (Prod.snd (Prod.snd (Prod.snd v)))))),
                      Prod.snd (Prod.snd (Prod.snd (Prod.snd (Prod.snd (Prod.snd (Prod.snd v))))))))))
            ([], (0 : Int), Prod.fst (Prod.snd b), Prod.fst (Prod.snd (Prod.snd b)),
              Prod.fst (Prod.snd (Prod.snd (Prod.snd b))), Prod.fst (Prod.snd (Prod.snd (Prod.snd (Prod.snd b)))),
              Prod.fst (Prod.snd (Prod.snd (Prod.snd (Prod.snd (Prod.snd b))))),
              Prod.snd (Prod.snd (Prod.snd (Prod.snd (Prod.snd (Prod.snd b)))))))
          fun (b_1 : List (Int × List UInt8) × Int × Int × Int × Int × Int × Int) =>
          cnd
            (List.all [wr IntKind.u8 ((97 : Int) + Int.tmod (Prod.fst (Prod.snd b_1)) (26 : Int))] fun (n : Int) =>
              decide ((0 : Int) ≤ n) && decide (n < (256 : Int)))
            (obind
              (w_ring_Add
                (Prod.fst b, wr IntKind.i64 ((50 : Int) + wr IntKind.i64 ((3 : Int) * (0 : Int))),
                  bytesI [wr IntKind.u8 ((97 : Int) + Int.tmod (Prod.fst (Prod.snd b_1)) (26 : Int))]))
              fun (b : List (Int × List UInt8)) =>
              obind
                (w_ring_Add
                  (Prod.fst b_1, wr IntKind.i64 ((50 : Int) + wr IntKind.i64 ((3 : Int) * (0 : Int))),
                    bytesI [wr IntKind.u8 ((97 : Int) + Int.tmod (Prod.fst (Prod.snd b_1)) (26 : Int))]))
                fun (b_2 : List (Int × List UInt8)) =>
                cnd
                  (List.all [wr IntKind.u8 ((97 : Int) + Int.tmod (Prod.fst (Prod.snd (Prod.snd b_1))) (26 : Int))]
                    fun (n : Int) => decide ((0 : Int) ≤ n) && decide (n < (256 : Int)))
                  (obind
                    (w_ring_Add
                      (b,
                        wr IntKind.i64 ((50 : Int) + wr IntKind.i64 ((3 : Int) * wr IntKind.i64 ((0 : Int) + (1 : Int)))),
                        bytesI [wr IntKind.u8 ((97 : Int) + Int.tmod (Prod.fst (Prod.snd (Prod.snd b_1))) (26 : Int))]))
                    fun (b : List (Int × List UInt8)) =>
                    obind
                      (w_ring_Add
                        (b_2,
                          wr IntKind.i64
                            ((50 : Int) + wr IntKind.i64 ((3 : Int) * wr IntKind.i64 ((0 : Int) + (1 : Int)))),
                          bytesI [wr IntKind.u8 ((97 : Int) + Int.tmod (Prod.fst (Prod.snd (Prod.snd b_1))) (26 : Int))]))
                      fun (b_3 : List (Int × List UInt8)) =>
                      cnd
                        (List.all
                          [wr IntKind.u8
                              ((97 : Int) + Int.tmod (Prod.fst (Prod.snd (Prod.snd (Prod.snd b_1)))) (26 : Int))]
                          fun (n : Int) => decide ((0 : Int) ≤ n) && decide (n < (256 : Int)))
                        (obind
                          (w_ring_Add
                            (b,
                              wr IntKind.i64
                                ((50 : Int) +
                                  wr IntKind.i64
                                    ((3 : Int) * wr IntKind.i64 (wr IntKind.i64 ((0 : Int) + (1 : Int)) + (1 : Int)))),
                              bytesI
                                [wr IntKind.u8
                                    ((97 : Int) + Int.tmod (Prod.fst (Prod.snd (Prod.snd (Prod.snd b_1)))) (26 : Int))]))
                          fun (b : List (Int × List UInt8)) =>
                          obind
                            (w_ring_Add
                              (b_3,
                                wr IntKind.i64
                                  ((50 : Int) +
                                    wr IntKind.i64
                                      ((3 : Int) * wr IntKind.i64 (wr IntKind.i64 ((0 : Int) + (1 : Int)) + (1 : Int)))),
                                bytesI
                                  [wr IntKind.u8
                                      ((97 : Int) +
                                        Int.tmod (Prod.fst (Prod.snd (Prod.snd (Prod.snd b_1)))) (26 : Int))]))
                            fun (b_4 : List (Int × List UInt8)) =>
                            cnd
                              (List.all
                                [wr IntKind.u8
                                    ((97 : Int) +
                                      Int.tmod (Prod.fst (Prod.snd (Prod.snd (Prod.snd (Prod.snd b_1))))) (26 : Int))]
                                fun (n : Int) => decide ((0 : Int) ≤ n) && decide (n < (256 : Int)))
                              (obind
                                (w_ring_Add
                                  (b,
                                    wr IntKind.i64
                                      ((50 : Int) +
                                        wr IntKind.i64
                                          ((3 : Int) *
                                            wr IntKind.i64
                                              (wr IntKind.i64 (wr IntKind.i64 ((0 : Int) + (1 : Int)) + (1 : Int)) +
                                                (1 : Int)))),
                                    bytesI
                                      [wr IntKind.u8
                                          ((97 : Int) +
                                            Int.tmod (Prod.fst (Prod.snd (Prod.snd (Prod.snd (Prod.snd b_1)))))
                                              (26 : Int))]))
                                fun (b : List (Int × List UInt8)) =>
                                obind
                                  (w_ring_Add
                                    (b_4,
                                      wr IntKind.i64
                                        ((50 : Int) +
                                          wr IntKind.i64
                                            ((3 : Int) *
                                              wr IntKind.i64
                                                (wr IntKind.i64 (wr IntKind.i64 ((0 : Int) + (1 : Int)) + (1 : Int)) +
                                                  (1 : Int)))),
                                      bytesI
                                        [wr IntKind.u8
                                            ((97 : Int) +
                                              Int.tmod (Prod.fst (Prod.snd (Prod.snd (Prod.snd (Prod.snd b_1)))))
                                                (26 : Int))]))
                                  fun (b_5 : List (Int × List UInt8)) =>
                                  cnd
                                    (List.all
                                      [wr IntKind.u8
                                          ((97 : Int) +
                                            Int.tmod (Prod.fst (Prod.snd (Prod.snd (Prod.snd (Prod.snd (Prod.snd b_1))))))
                                              (26 : Int))]
                                      fun (n : Int) => decide ((0 : Int) ≤ n) && decide (n < (256 : Int)))
                                    (obind
                                      (w_ring_Add
                                        (b,
                                          wr IntKind.i64
                                            ((50 : Int) +
                                              wr IntKind.i64
                                                ((3 : Int) *
                                                  wr IntKind.i64
                                                    (wr IntKind.i64
                                                        (wr IntKind.i64
                                                            (wr IntKind.i64 ((0 : Int) + (1 : Int)) + (1 : Int)) +
                                                          (1 : Int)) +
                                                      (1 : Int)))),
                                          bytesI
                                            [wr IntKind.u8
                                                ((97 : Int) +
                                                  Int.tmod
                                                    (Prod.fst (Prod.snd (Prod.snd (Prod.snd (Prod.snd (Prod.snd b_1))))))
                                                    (26 : Int))]))
                                      fun (b : List (Int × List UInt8)) =>
                                      obind
                                        (w_ring_Add
                                          (b_5,
                                            wr IntKind.i64
                                              ((50 : Int) +
                                                wr IntKind.i64
                                                  ((3 : Int) *
                                                    wr IntKind.i64
                                                      (wr IntKind.i64
                                                          (wr IntKind.i64
                                                              (wr IntKind.i64 ((0 : Int) + (1 : Int)) + (1 : Int)) +
                                                            (1 : Int)) +
                                                        (1 : Int)))),
                                            bytesI
                                              [wr IntKind.u8
                                                  ((97 : Int) +
                                                    Int.tmod
                                                      (Prod.fst
                                                        (Prod.snd (Prod.snd (Prod.snd (Prod.snd (Prod.snd b_1))))))
                                                      (26 : Int))]))
                                        fun (b_6 : List (Int × List UInt8)) =>
                                        cnd
                                          (List.all
                                            [wr IntKind.u8
                                                ((97 : Int) +
                                                  Int.tmod
                                                    (Prod.snd (Prod.snd (Prod.snd (Prod.snd (Prod.snd (Prod.snd b_1))))))
                                                    (26 : Int))]
                                            fun (n : Int) => decide ((0 : Int) ≤ n) && decide (n < (256 : Int)))
                                          (obind
                                            (w_ring_Add
                                              (b,
                                                wr IntKind.i64
                                                  ((50 : Int) +
                                                    wr IntKind.i64
                                                      ((3 : Int) *
                                                        wr IntKind.i64
                                                          (wr IntKind.i64
                                                              (wr IntKind.i64
                                                                  (wr IntKind.i64
                                                                      (wr IntKind.i64 ((0 : Int) + (1 : Int)) +
                                                                        (1 : Int)) +
                                                                    (1 : Int)) +
                                                                (1 : Int)) +
                                                            (1 : Int)))),
                                                bytesI
                                                  [wr IntKind.u8
                                                      ((97 : Int) +
                                                        Int.tmod
                                                          (Prod.snd
                                                            (Prod.snd (Prod.snd (Prod.snd (Prod.snd (Prod.snd b_1))))))
                                                          (26 : Int))]))
                                            fun (b : List (Int × List UInt8)) =>
                                            obind
                                              (w_ring_Add
                                                (b_6,
                                                  wr IntKind.i64
                                                    ((50 : Int) +
                                                      wr IntKind.i64
                                                        ((3 : Int) *
                                                          wr IntKind.i64
                                                            (wr IntKind.i64
                                                                (wr IntKind.i64
                                                                    (wr IntKind.i64
                                                                        (wr IntKind.i64 ((0 : Int) + (1 : Int)) +
                                                                          (1 : Int)) +
                                                                      (1 : Int)) +
                                                                  (1 : Int)) +
                                                              (1 : Int)))),
                                                  bytesI
                                                    [wr IntKind.u8
                                                        ((97 : Int) +
                                                          Int.tmod
                                                            (Prod.snd
                                                              (Prod.snd (Prod.snd (Prod.snd (Prod.snd (Prod.snd b_1))))))
                                                            (26 : Int))]))
                                              fun (b_7 : List (Int × List UInt8)) =>
                                              obind
                                                (obind (w_ref13_SameItems (b, b_7)) fun (b_8 : Bool) =>
                                                  cnd b_8 (some (decide ((↑(List.length b) : Int) = (6 : Int)))) (some false))
                                                fun (b_8 : Bool) =>
                                                cnd b_8
                                                  (cnd
                                                    (decide ((0 : Int) ≤ (0 : Int)) &&
                                                      decide ((0 : Int) < (↑(List.length b) : Int)))
                                                    (some
                                                      (decide
                                                        (Prod.fst (List.getD b (0 : Nat) ((0 : Int), [])) = (50 : Int))))
                                                    none)
                                                  (some false))
                                          none)
                                    none)
                              none)
                        none)
                  none)
            none))
theorem FV_law14_RingTurns_eq (w_ring_Add : (List (Int × List UInt8)) × Int × List UInt8 → Option (List (Int × List UInt8))) (w_ref13_SameItems : (List (Int × List UInt8)) × List (Int × List UInt8) → Option (Bool)) (N : Nat) (x : (List Int) × (List Int) × Int × Int × Int × Int × Int × Int) : F_law14_RingTurns w_ring_Add w_ref13_SameItems N x = V_law14_RingTurns w_ring_Add w_ref13_SameItems N x := by kernel_rfl
noncomputable def W_law14_RingTurns (N : Nat) (x : (List Int) × (List Int) × Int × Int × Int × Int × Int × Int) : Option (Bool) :=
  cnd (decide ((12 : Int) < (↑(List.length (Prod.fst x)) : Int))) (some true)
    (cnd (decide ((12 : Int) < (↑(List.length (Prod.fst (Prod.snd x))) : Int))) (some true)
      (obind
        (loopN N
          (fun (v : List (Int × List UInt8) × Int × Int × Int × Int × Int × Int × Int) =>
            cnd (decide (Prod.fst (Prod.snd v) < (↑(List.length (Prod.fst x)) : Int)))
              (cnd
                (decide ((0 : Int) ≤ Prod.fst (Prod.snd v)) &&
                  decide (Prod.fst (Prod.snd v) < (↑(List.length (Prod.fst x)) : Int)))
                (cnd
                  (List.all
                    [wr IntKind.u8
                        ((97 : Int) +
                          Int.tmod (List.getD (Prod.fst x) (Int.toNat (Prod.fst (Prod.snd v))) (0 : Int)) (26 : Int))]
                    fun (n : Int) => decide ((0 : Int) ≤ n) && decide (n < (256 : Int)))
                  (obind
                    (W_ring_Add N
                      (Prod.fst v, wr IntKind.i64 ((1 : Int) + Prod.fst (Prod.snd v)),
                        bytesI
                          [wr IntKind.u8
                              ((97 : Int) +
                                Int.tmod (List.getD (Prod.fst x) (Int.toNat (Prod.fst (Prod.snd v))) (0 : Int))
                                  (26 : Int))]))
                    fun (b : List (Int × List UInt8)) =>
                    some
                      (Sum.inl
                        (b, wr IntKind.i64 (Prod.fst (Prod.snd v) + (1 : Int)), Prod.fst (Prod.snd (Prod.snd v)),
                          Prod.fst (Prod.snd (Prod.snd (Prod.snd v))),
                          Prod.fst (Prod.snd (Prod.snd (Prod.snd (Prod.snd v)))),
                          Prod.fst (Prod.snd (Prod.snd (Prod.snd (Prod.snd (Prod.snd v))))),
                          Prod.fst (Prod.snd (Prod.snd (Prod.snd (Prod.snd (Prod.snd (Prod.snd v)))))),
                          Prod.snd (Prod.snd (Prod.snd (Prod.snd (Prod.snd (Prod.snd (Prod.snd v)))))))))
                  none)
                none)
              (some
                (Sum.inr
                  (Prod.fst v, Prod.fst (Prod.snd (Prod.snd v)), Prod.fst (Prod.snd (Prod.snd (Prod.snd v))),
                    Prod.fst (Prod.snd (Prod.snd (Prod.snd (Prod.snd v)))),
                    Prod.fst (Prod.snd (Prod.snd (Prod.snd (Prod.snd (Prod.snd v))))),
                    Prod.fst (Prod.snd (Prod.snd (Prod.snd (Prod.snd (Prod.snd (Prod.snd v)))))),
                    Prod.snd (Prod.snd (Prod.snd (Prod.snd (Prod.snd (Prod.snd (Prod.snd v))))))))))
          ([], (0 : Int), Prod.fst (Prod.snd (Prod.snd x)), Prod.fst (Prod.snd (Prod.snd (Prod.snd x))),
            Prod.fst (Prod.snd (Prod.snd (Prod.snd (Prod.snd x)))),
            Prod.fst (Prod.snd (Prod.snd (Prod.snd (Prod.snd (Prod.snd x))))),
            Prod.fst (Prod.snd (Prod.snd (Prod.snd (Prod.snd (Prod.snd (Prod.snd x)))))),
            Prod.snd (Prod.snd (Prod.snd (Prod.snd (Prod.snd (Prod.snd (Prod.snd x))))))))
        fun (b : List (Int × List UInt8) × Int × Int × Int × Int × Int × Int) =>
        obind
          (loopN N
            (fun (v : List (Int × List UInt8) × Int × Int × Int × Int × Int × Int × Int) =>
              cnd (decide (Prod.fst (Prod.snd v) < (↑(List.length (Prod.fst (Prod.snd x))) : Int)))
                (cnd
                  (decide ((0 : Int) ≤ Prod.fst (Prod.snd v)) &&
                    decide (Prod.fst (Prod.snd v) < (↑(List.length (Prod.fst (Prod.snd x))) : Int)))
                  (cnd
                    (List.all
                      [wr IntKind.u8
                          ((97 : Int) +
                            Int.tmod (List.getD (Prod.fst (Prod.snd x)) (Int.toNat (Prod.fst (Prod.snd v))) (0 : Int))
                              (26 : Int))]
                      fun (n : Int) => decide ((0 : Int) ≤ n) && decide (n < (256 : Int)))
                    (obind
                      (W_ring_Add N
                        (Prod.fst v, wr IntKind.i64 ((1 : Int) + wr IntKind.i64 ((2 : Int) * Prod.fst (Prod.snd v))),
                          bytesI
                            [wr IntKind.u8
                                ((97 : Int) +
                                  Int.tmod
                                    (List.getD (Prod.fst (Prod.snd x)) (Int.toNat (Prod.fst (Prod.snd v))) (0 : Int))
                                    (26 : Int))]))
                      fun (b : List (Int × List UInt8)) =>
                      some
                        (Sum.inl
                          (b, wr IntKind.i64 (Prod.fst (Prod.snd v) + (1 : Int)), Prod.fst (Prod.snd (Prod.snd v)),
                            Prod.fst (Prod.snd (Prod.snd (Prod.snd v))),
                            Prod.fst (Prod.snd (Prod.snd (Prod.snd (Prod.snd v)))),
                            Prod.fst (Prod.snd (Prod.snd (Prod.snd (Prod.snd (Prod.snd v))))),
                            Prod.fst (Prod.snd (Prod.snd (Prod.snd (Prod.snd (Prod.snd (Prod.snd v)))))),
                            Prod.snd (Prod.snd (Prod.snd (Prod.snd (Prod.snd (Prod.snd (Prod.snd v)))))))))
                    none)
                  none)
                (some
                  (Sum.inr
                    (Prod.fst v, Prod.fst (Prod.snd (Prod.snd v)), Prod.fst (Prod.snd (Prod.snd (Prod.snd v))),
                      Prod.fst (Prod.snd (Prod.snd (Prod.snd (Prod.snd v)))),
                      Prod.fst (Prod.snd (Prod.snd (Prod.snd (Prod.snd (Prod.snd v))))),
                      Prod.fst (Prod.snd (Prod.snd (Prod.snd (Prod.snd (Prod.snd (Prod.snd v)))))),
                      Prod.snd (Prod.snd (Prod.snd (Prod.snd (Prod.snd (Prod.snd (Prod.snd v))))))))))
            ([], (0 : Int), Prod.fst (Prod.snd b), Prod.fst (Prod.snd (Prod.snd b)),
              Prod.fst (Prod.snd (Prod.snd (Prod.snd b))), Prod.fst (Prod.snd (Prod.snd (Prod.snd (Prod.snd b)))),
              Prod.fst (Prod.snd (Prod.snd (Prod.snd (Prod.snd (Prod.snd b))))),
              Prod.snd (Prod.snd (Prod.snd (Prod.snd (Prod.snd (Prod.snd b)))))))
          fun (b_1 : List (Int × List UInt8) × Int × Int × Int × Int × Int × Int) =>
          cnd
            (List.all [wr IntKind.u8 ((97 : Int) + Int.tmod (Prod.fst (Prod.snd b_1)) (26 : Int))] fun (n : Int) =>
              decide ((0 : Int) ≤ n) && decide (n < (256 : Int)))
            (obind
              (W_ring_Add N
                (Prod.fst b, wr IntKind.i64 ((50 : Int) + wr IntKind.i64 ((3 : Int) * (0 : Int))),
                  bytesI [wr IntKind.u8 ((97 : Int) + Int.tmod (Prod.fst (Prod.snd b_1)) (26 : Int))]))
              fun (b : List (Int × List UInt8)) =>
              obind
                (W_ring_Add N
                  (Prod.fst b_1, wr IntKind.i64 ((50 : Int) + wr IntKind.i64 ((3 : Int) * (0 : Int))),
                    bytesI [wr IntKind.u8 ((97 : Int) + Int.tmod (Prod.fst (Prod.snd b_1)) (26 : Int))]))
                fun (b_2 : List (Int × List UInt8)) =>
                cnd
                  (List.all [wr IntKind.u8 ((97 : Int) + Int.tmod (Prod.fst (Prod.snd (Prod.snd b_1))) (26 : Int))]
                    fun (n : Int) => decide ((0 : Int) ≤ n) && decide (n < (256 : Int)))
                  (obind
                    (W_ring_Add N
                      (b,
                        wr IntKind.i64 ((50 : Int) + wr IntKind.i64 ((3 : Int) * wr IntKind.i64 ((0 : Int) + (1 : Int)))),
                        bytesI [wr IntKind.u8 ((97 : Int) + Int.tmod (Prod.fst (Prod.snd (Prod.snd b_1))) (26 : Int))]))
                    fun (b : List (Int × List UInt8)) =>
                    obind
                      (W_ring_Add N
                        (b_2,
                          wr IntKind.i64
                            ((50 : Int) + wr IntKind.i64 ((3 : Int) * wr IntKind.i64 ((0 : Int) + (1 : Int)))),
                          bytesI [wr IntKind.u8 ((97 : Int) + Int.tmod (Prod.fst (Prod.snd (Prod.snd b_1))) (26 : Int))]))
                      fun (b_3 : List (Int × List UInt8)) =>
                      cnd
                        (List.all
                          [wr IntKind.u8
                              ((97 : Int) + Int.tmod (Prod.fst (Prod.snd (Prod.snd (Prod.snd b_1)))) (26 : Int))]
                          fun (n : Int) => decide ((0 : Int) ≤ n) && decide (n < (256 : Int)))
                        (obind
                          (W_ring_Add N
                            (b,
                              wr IntKind.i64
                                ((50 : Int) +
                                  wr IntKind.i64
                                    ((3 : Int) * wr IntKind.i64 (wr IntKind.i64 ((0 : Int) + (1 : Int)) + (1 : Int)))),
                              bytesI
                                [wr IntKind.u8
                                    ((97 : Int) + Int.tmod (Prod.fst (Prod.snd (Prod.snd (Prod.snd b_1)))) (26 : Int))]))
                          fun (b : List (Int × List UInt8)) =>
                          obind
                            (W_ring_Add N
                              (b_3,
                                wr IntKind.i64
                                  ((50 : Int) +
                                    wr IntKind.i64
                                      ((3 : Int) * wr IntKind.i64 (wr IntKind.i64 ((0 : Int) + (1 : Int)) + (1 : Int)))),
                                bytesI
                                  [wr IntKind.u8
                                      ((97 : Int) +
                                        Int.tmod (Prod.fst (Prod.snd (Prod.snd (Prod.snd b_1)))) (26 : Int))]))
                            fun (b_4 : List (Int × List UInt8)) =>
                            cnd
                              (List.all
                                [wr IntKind.u8
                                    ((97 : Int) +
                                      Int.tmod (Prod.fst (Prod.snd (Prod.snd (Prod.snd (Prod.snd b_1))))) (26 : Int))]
                                fun (n : Int) => decide ((0 : Int) ≤ n) && decide (n < (256 : Int)))
                              (obind
                                (W_ring_Add N
                                  (b,
                                    wr IntKind.i64
                                      ((50 : Int) +
                                        wr IntKind.i64
                                          ((3 : Int) *
                                            wr IntKind.i64
                                              (wr IntKind.i64 (wr IntKind.i64 ((0 : Int) + (1 : Int)) + (1 : Int)) +
                                                (1 : Int)))),
                                    bytesI
                                      [wr IntKind.u8
                                          ((97 : Int) +
                                            Int.tmod (Prod.fst (Prod.snd (Prod.snd (Prod.snd (Prod.snd b_1)))))
                                              (26 : Int))]))
                                fun (b : List (Int × List UInt8)) =>
                                obind
                                  (W_ring_Add N
                                    (b_4,
                                      wr IntKind.i64
                                        ((50 : Int) +
                                          wr IntKind.i64
                                            ((3 : Int) *
                                              wr IntKind.i64
                                                (wr IntKind.i64 (wr IntKind.i64 ((0 : Int) + (1 : Int)) + (1 : Int)) +
                                                  (1 : Int)))),
                                      bytesI
                                        [wr IntKind.u8
                                            ((97 : Int) +
                                              Int.tmod (Prod.fst (Prod.snd (Prod.snd (Prod.snd (Prod.snd b_1)))))
                                                (26 : Int))]))
                                  fun (b_5 : List (Int × List UInt8)) =>
                                  cnd
                                    (List.all
                                      [wr IntKind.u8
                                          ((97 : Int) +
                                            Int.tmod (Prod.fst (Prod.snd (Prod.snd (Prod.snd (Prod.snd (Prod.snd b_1))))))
                                              (26 : Int))]
                                      fun (n : Int) => decide ((0 : Int) ≤ n) && decide (n < (256 : Int)))
                                    (obind
                                      (W_ring_Add N
                                        (b,
                                          wr IntKind.i64
                                            ((50 : Int) +
                                              wr IntKind.i64
                                                ((3 : Int) *
                                                  wr IntKind.i64
                                                    (wr IntKind.i64
                                                        (wr IntKind.i64
                                                            (wr IntKind.i64 ((0 : Int) + (1 : Int)) + (1 : Int)) +
                                                          (1 : Int)) +
                                                      (1 : Int)))),
                                          bytesI
                                            [wr IntKind.u8
                                                ((97 : Int) +
                                                  Int.tmod
                                                    (Prod.fst (Prod.snd (Prod.snd (Prod.snd (Prod.snd (Prod.snd b_1))))))
                                                    (26 : Int))]))
                                      fun (b : List (Int × List UInt8)) =>
                                      obind
                                        (W_ring_Add N
                                          (b_5,
                                            wr IntKind.i64
                                              ((50 : Int) +
                                                wr IntKind.i64
                                                  ((3 : Int) *
                                                    wr IntKind.i64
                                                      (wr IntKind.i64
                                                          (wr IntKind.i64
                                                              (wr IntKind.i64 ((0 : Int) + (1 : Int)) + (1 : Int)) +
                                                            (1 : Int)) +
                                                        (1 : Int)))),
                                            bytesI
                                              [wr IntKind.u8
                                                  ((97 : Int) +
                                                    Int.tmod
                                                      (Prod.fst
                                                        (Prod.snd (Prod.snd (Prod.snd (Prod.snd (Prod.snd b_1))))))
                                                      (26 : Int))]))
                                        fun (b_6 : List (Int × List UInt8)) =>
                                        cnd
                                          (List.all
                                            [wr IntKind.u8
                                                ((97 : Int) +
                                                  Int.tmod
                                                    (Prod.snd (Prod.snd (Prod.snd (Prod.snd (Prod.snd (Prod.snd b_1))))))
                                                    (26 : Int))]
                                            fun (n : Int) => decide ((0 : Int) ≤ n) && decide (n < (256 : Int)))
                                          (obind
                                            (W_ring_Add N
                                              (b,
                                                wr IntKind.i64
                                                  ((50 : Int) +
                                                    wr IntKind.i64
                                                      ((3 : Int) *
                                                        wr IntKind.i64
                                                          (wr IntKind.i64
                                                              (wr IntKind.i64
                                                                  (wr IntKind.i64
                                                                      (wr IntKind.i64 ((0 : Int) + (1 : Int)) +
                                                                        (1 : Int)) +
                                                                    (1 : Int)) +
                                                                (1 : Int)) +
                                                            (1 : Int)))),
                                                bytesI
                                                  [wr IntKind.u8
                                                      ((97 : Int) +
                                                        Int.tmod
                                                          (Prod.snd
                                                            (Prod.snd (Prod.snd (Prod.snd (Prod.snd (Prod.snd b_1))))))
                                                          (26 : Int))]))
                                            fun (b : List (Int × List UInt8)) =>
                                            obind
                                              (W_ring_Add N
                                                (b_6,
                                                  wr IntKind.i64
                                                    ((50 : Int) +
                                                      wr IntKind.i64
                                                        ((3 : Int) *
                                                          wr IntKind.i64
                                                            (wr IntKind.i64
                                                                (wr IntKind.i64
                                                                    (wr IntKind.i64
                                                                        (wr IntKind.i64 ((0 : Int) + (1 : Int)) +
                                                                          (1 : Int)) +
                                                                      (1 : Int)) +
                                                                  (1 : Int)) +
                                                              (1 : Int)))),
                                                  bytesI
                                                    [wr IntKind.u8
                                                        ((97 : Int) +
                                                          Int.tmod
                                                            (Prod.snd
                                                              (Prod.snd (Prod.snd (Prod.snd (Prod.snd (Prod.snd b_1))))))
                                                            (26 : Int))]))
                                              fun (b_7 : List (Int × List UInt8)) =>
                                              obind
                                                (obind (W_ref13_SameItems N (b, b_7)) fun (b_8 : Bool) =>
                                                  cnd b_8 (some (decide ((↑(List.length b) : Int) = (6 : Int)))) (some false))
                                                fun (b_8 : Bool) =>
                                                cnd b_8
                                                  (cnd
                                                    (decide ((0 : Int) ≤ (0 : Int)) &&
                                                      decide ((0 : Int) < (↑(List.length b) : Int)))
                                                    (some
                                                      (decide
                                                        (Prod.fst (List.getD b (0 : Nat) ((0 : Int), [])) = (50 : Int))))
                                                    none)
                                                  (some false))
                                          none)
                                    none)
                              none)
                        none)
                  none)
            none))
theorem F_law14_RingTurns_eq (N : Nat) (x : (List Int) × (List Int) × Int × Int × Int × Int × Int × Int) : F_law14_RingTurns (W_ring_Add N) (W_ref13_SameItems N) N x = W_law14_RingTurns N x := (FV_law14_RingTurns_eq (W_ring_Add N) (W_ref13_SameItems N) N x).trans (by kernel_rfl)
noncomputable def conw_law14_RingTurns (w : (List Int) × (List Int) × Int × Int × Int × Int × Int × Int → Option (Bool)) : Con := ⟨14, as_law14_RingTurns, bs_law14_RingTurns, Bool, w, out_law14_RingTurns⟩
noncomputable def con_law14_RingTurns (N : Nat) : Con := conw_law14_RingTurns (W_law14_RingTurns N)
theorem R_law14_RingTurns_eq (x : (List Int) × (List Int) × Int × Int × Int × Int × Int × Int) (y : Bool) : retOf2 P0 Try.f14 (kpL []) (lbOf as_law14_RingTurns bs_law14_RingTurns x) (patS ⟨98, [], [], []⟩ pout_law14_RingTurns y) = some (out_law14_RingTurns y) := by kernel_rfl
theorem con_law14_RingTurns_ok (N : Nat) : Con.ok P0 (con_law14_RingTurns N) := ⟨⟨Try.f14, Try.func14, by kernel_rfl, by kernel_rfl⟩, fun (x : (List Int) × (List Int) × Int × Int × Int × Int × Int × Int) (r : Bool) (hr : W_law14_RingTurns N x = some r) =>
  spec2_evT (Γ := G_law14_RingTurns (W_ring_Add N) (W_ref13_SameItems N) N) (Λ := L0) (pout := pout_law14_RingTurns) (kp := kpL []) mixed (orcOf_ok _ (by simp only [List.mem_cons, List.not_mem_nil, or_false, forall_eq_or_imp, forall_eq]; exact ⟨con_law14_begun_ok N, con_ring_Add_ok N, con_ref13_SameItems_ok N⟩)) Try.func14 (c := bodyOf Try.f14) (by kernel_rfl) (by kernel_rfl) (of_decide_eq_true (by kernel_rfl)) ((F_law14_RingTurns_eq N x).trans hr) (R_law14_RingTurns_eq x r)⟩
/-! What is reckoned. -/
-- PURE
theorem wr_m {z : Int} (h : -140737488355328 ≤ z) (h2 : z ≤ 140737488355328) : wr .i64 z = z := wr_i64 (by omega) (by omega)
abbrev It := Int × List UInt8
abbrev iD : It := ((0 : Int), ([] : List UInt8))
theorem Clone_i (N : Nat) (l : List It) (hl : l.length ≤ 1000) : W_slices_Clone_api_Item N l = some l := by
  unfold W_slices_Clone_api_Item
  rw [dT (by omega), cnd_t]
/-- What a ring comes to with one more behind it. -/
def addR (l : List It) (e : It) : List It := if 6 ≤ l.length then (l ++ [e]).drop 1 else l ++ [e]
theorem Add_eq (N : Nat) (l : List It) (e : It) (hl : l.length ≤ 6) (hs : ∀ h : 0 < l.length, (l.getD (l.length - 1) iD).1 < e.1) : W_ring_Add N (l, e.1, e.2) = some (addR l e) := by
  unfold W_ring_Add
  simp only [Clone_i N l (by omega), obind_s]
  have tail : cnd (decide ((List.length l + List.length [(e.1, e.2)]) * (24 : Nat) ≤ (140737488355328 : Nat)))
          (cnd (decide ((6 : Int) < (↑(List.length (l ++ [(e.1, e.2)])) : Int)))
            (obind
              (W_slices_Delete_api_Item N ((0 : Int), (1 : Int), l ++ [(e.1, e.2)]))
              fun (b : List (Int × List UInt8)) => some b)
            (some (l ++ [(e.1, e.2)])))
          none = some (addR l e) := by
    rw [dT (by simp only [List.length_singleton]; omega), cnd_t]
    unfold addR
    by_cases h6 : 6 ≤ l.length
    · rw [dT (by simp only [List.length_append, List.length_singleton]; omega), cnd_t, if_pos h6]
      unfold W_slices_Delete_api_Item
      simp only
      rw [dT (by omega), dT (by simp only [List.length_append, List.length_singleton]; omega), dT (by omega), dT (by simp only [List.length_append, List.length_singleton]; omega), dT (by simp only [List.length_append, List.length_singleton]; omega)]
      simp only [Bool.and_self, cnd_t, obind_s]
      rfl
    · rw [dF (by simp only [List.length_append, List.length_singleton]; omega), cnd_f, if_neg h6]
  by_cases h0 : (0 : Int) < l.length
  · have w1 : wr .i64 ((l.length : Int) - 1) = ((l.length - 1 : Nat) : Int) := by rw [wr_m (by omega) (by omega)]; omega
    have h1 := hs (by omega)
    rw [dT h0, cnd_t, w1, dT (by omega), dT (by omega), Bool.and_self, cnd_t, Int.toNat_natCast, dF (by show ¬ e.1 ≤ (l.getD (l.length - 1) iD).1; omega), cnd_f]
    exact tail
  · rw [dF h0, cnd_f]
    exact tail
theorem addR_len (l : List It) (e : It) (hl : l.length ≤ 6) : (addR l e).length = min (l.length + 1) 6 := by
  unfold addR
  split <;> simp <;> omega
theorem addR_get (l : List It) (e : It) (hl : l.length ≤ 6) (j : Nat) (hj : j < (addR l e).length) : (addR l e).getD j iD = if j + 1 = (addR l e).length then e else l.getD (j + (l.length + 1 - (addR l e).length)) iD := by
  have h := addR_len l e hl
  rw [h] at hj ⊢
  unfold addR
  split
  · rename_i h6
    have h7 : l.length = 6 := by omega
    rw [List.getD_eq_getElem?_getD, List.getElem?_drop, h7]
    by_cases c : j + 1 = 6
    · rw [if_pos (by omega), List.getElem?_append_right (by omega), show 1 + j - l.length = 0 by omega]; rfl
    · rw [if_neg (by omega), List.getElem?_append_left (by omega), List.getD_eq_getElem?_getD]; congr 2; omega
  · rename_i h6
    rw [List.getD_eq_getElem?_getD]
    by_cases c : j = l.length
    · rw [if_pos (by omega), List.getElem?_append_right (by omega), c, Nat.sub_self]; rfl
    · rw [if_neg (by omega), List.getElem?_append_left (by omega), List.getD_eq_getElem?_getD]; congr 2; omega
def Hd (R : List It) (m : Int) (L : List It) : Prop := R.length ≤ 6 ∧ (∀ _ : 0 < R.length, (R.getD (R.length - 1) iD).1 < m) ∧ ∃ P, R = P ++ L
theorem Hd.mono {R L : List It} {m m' : Int} (h : Hd R m L) (hm : m ≤ m') : Hd R m' L := ⟨h.1, fun q => by have := h.2.1 q; omega, h.2.2⟩
theorem Add_Hd (N : Nat) {R L : List It} {m : Int} (s : Int) (t : List UInt8) (h : Hd R m L) (hm : m ≤ s) (hL : L.length < 6) : ∃ R', W_ring_Add N (R, s, t) = some R' ∧ Hd R' (s + 1) (L ++ [(s, t)]) := by
  obtain ⟨h1, h2, P, h3⟩ := h
  refine ⟨addR R (s, t), Add_eq N R (s, t) h1 (fun q => by have := h2 q; simp only; omega), ?_, fun q => ?_, ?_⟩
  · rw [addR_len _ _ h1]; omega
  · rw [addR_get _ _ h1 _ (by omega), if_pos (by omega)]; simp only; omega
  · unfold addR
    split
    · rename_i h6
      cases P with
      | nil => rw [h3] at h6; simp only [List.nil_append] at h6; omega
      | cons p P => exact ⟨P, by rw [h3]; simp⟩
    · exact ⟨P, by rw [h3, List.append_assoc]⟩
theorem Same_eq (N : Nat) (l : List It) (hN : l.length < N) (hl : l.length ≤ 1000) : W_ref13_SameItems N (l, l) = some true := by
  unfold W_ref13_SameItems
  simp only
  rw [dF (by simp), cnd_f]
  refine obind_loop (fun v : Int => 0 ≤ v ∧ v ≤ l.length) (fun v => l.length - v.toNat) (fun r : PUnit ⊕ Bool => r = .inl ()) ⟨by simp, by simp⟩ (by simp; omega) ?_ ?_
  · rintro r rfl; rw [selim_l]
  · rintro v ⟨g1, g2⟩
    by_cases h : v < l.length
    case neg => right; rw [dF h, cnd_f]; exact ⟨_, rfl, rfl⟩
    left
    rw [dT h, cnd_t, dT g1, Bool.and_self, cnd_t, cnd_t, dT trivial, BEq.rfl, Bool.and_self, Bool.not_true, cnd_f, wr_m (by omega) (by omega)]
    exact ⟨_, rfl, ⟨by omega, by omega⟩, by omega⟩
theorem Twf_u8 {l : List Int} (h : Twf (.list (.int .u8)) l) : ∀ j : Nat, 0 ≤ l.getD j 0 ∧ l.getD j 0 ≤ 255 := by
  intro j
  rw [List.getD_eq_getElem?_getD]
  by_cases hj : j < l.length
  · rw [List.getElem?_eq_getElem hj]
    have := h.2 _ (List.getElem_mem hj)
    exact this
  · rw [List.getElem?_eq_none (by omega)]; simp
theorem u8t {z : Int} (h : 0 ≤ z ∧ z ≤ 255) : wr .u8 (97 + Int.tmod z 26) = 97 + z % 26 := by rw [Int.tmod_eq_emod_of_nonneg h.1, wr_u8 (by omega) (by omega)]
theorem u8a {z : Int} (h : 0 ≤ z ∧ z ≤ 255) : List.all [97 + z % 26] (fun (n : Int) => decide ((0 : Int) ≤ n) && decide (n < (256 : Int))) = true := by
  simp only [List.all_cons, List.all_nil, Bool.and_true, Bool.and_eq_true, decide_eq_true_eq]; omega
theorem wk {a b : Int} (e : a = b) (h : -140737488355328 ≤ b) (h2 : b ≤ 140737488355328) : wr .i64 a = b := by rw [e, wr_m h h2]
abbrev St7 := List It × Int × Int × Int × Int × Int × Int
theorem law_aux (N : Nat) (hN : 100 ≤ N) (x y : List Int) (a0 a1 a2 a3 a4 a5 : Int) (hx : ∀ j : Nat, 0 ≤ x.getD j 0 ∧ x.getD j 0 ≤ 255) (hy : ∀ j : Nat, 0 ≤ y.getD j 0 ∧ y.getD j 0 ≤ 255)
    (g0 : 0 ≤ a0 ∧ a0 ≤ 255) (g1 : 0 ≤ a1 ∧ a1 ≤ 255) (g2 : 0 ≤ a2 ∧ a2 ≤ 255) (g3 : 0 ≤ a3 ∧ a3 ≤ 255) (g4 : 0 ≤ a4 ∧ a4 ≤ 255) (g5 : 0 ≤ a5 ∧ a5 ≤ 255) : W_law14_RingTurns N (x, y, a0, a1, a2, a3, a4, a5) = some true := by
  unfold W_law14_RingTurns
  simp only
  by_cases c1 : (12 : Int) < x.length
  · rw [dT c1, cnd_t]
  rw [dF c1, cnd_f]
  by_cases c2 : (12 : Int) < y.length
  · rw [dT c2, cnd_t]
  rw [dF c2, cnd_f]
  refine obind_loop (fun v : List It × Int × Int × Int × Int × Int × Int × Int => ∃ i : Nat, v.2.1 = i ∧ i ≤ x.length ∧ Hd v.1 (1 + (i : Int)) [] ∧ v.2.2 = (a0, a1, a2, a3, a4, a5)) (fun v => x.length - v.2.1.toNat)
    (fun r : St7 => ∃ R, r = (R, a0, a1, a2, a3, a4, a5) ∧ Hd R 40 []) ⟨0, rfl, by omega, ⟨by simp, fun q => by simp at q, [], rfl⟩, rfl⟩ (by simp; omega) ?_ ?_
  case refine_2 =>
    rintro ⟨R, v, b⟩ ⟨i, hi, hil, hI, hb⟩
    simp only at hi hI hb ⊢
    subst hi hb
    by_cases hlt : (i : Int) < x.length
    case neg => right; rw [dF hlt, cnd_f]; exact ⟨_, rfl, R, rfl, hI.mono (by omega)⟩
    left
    obtain ⟨R', e1, e2⟩ := Add_Hd N (1 + (i : Int)) (bytesI [97 + x.getD i 0 % 26]) hI (by omega) (by simp)
    rw [dT hlt, cnd_t, dT (Int.natCast_nonneg i), Bool.and_self, cnd_t, Int.toNat_natCast, u8t (hx i), u8a (hx i), cnd_t, wr_m (z := 1 + (i : Int)) (by omega) (by omega), e1, obind_s, wr_m (by omega) (by omega)]
    refine ⟨_, rfl, ⟨i + 1, (Int.natCast_succ i).symm, by omega, ?_, rfl⟩, by simp only; omega⟩
    exact ⟨e2.1, fun q => by have := e2.2.1 q; simp only; omega, R', by simp⟩
  rintro r ⟨R, rfl, hR⟩
  simp only
  refine obind_loop (fun v : List It × Int × Int × Int × Int × Int × Int × Int => ∃ i : Nat, v.2.1 = i ∧ i ≤ y.length ∧ Hd v.1 (1 + 2 * (i : Int)) [] ∧ v.2.2 = (a0, a1, a2, a3, a4, a5)) (fun v => y.length - v.2.1.toNat)
    (fun r : St7 => ∃ R, r = (R, a0, a1, a2, a3, a4, a5) ∧ Hd R 40 []) ⟨0, rfl, by omega, ⟨by simp, fun q => by simp at q, [], rfl⟩, rfl⟩ (by simp; omega) ?_ ?_
  case refine_2 =>
    rintro ⟨R, v, b⟩ ⟨i, hi, hil, hI, hb⟩
    simp only at hi hI hb ⊢
    subst hi hb
    by_cases hlt : (i : Int) < y.length
    case neg => right; rw [dF hlt, cnd_f]; exact ⟨_, rfl, R, rfl, hI.mono (by omega)⟩
    left
    obtain ⟨R', e1, e2⟩ := Add_Hd N (1 + 2 * (i : Int)) (bytesI [97 + y.getD i 0 % 26]) hI (by omega) (by simp)
    rw [dT hlt, cnd_t, dT (Int.natCast_nonneg i), Bool.and_self, cnd_t, Int.toNat_natCast, u8t (hy i), u8a (hy i), cnd_t, wr_m (z := 2 * (i : Int)) (by omega) (by omega), wr_m (z := 1 + 2 * (i : Int)) (by omega) (by omega), e1, obind_s, wr_m (by omega) (by omega)]
    refine ⟨_, rfl, ⟨i + 1, (Int.natCast_succ i).symm, by omega, ?_, rfl⟩, by simp only; omega⟩
    exact ⟨e2.1, fun q => by have := e2.2.1 q; simp only; omega, R', by simp⟩
  rintro r ⟨S, rfl, hS⟩
  simp only
  have k1 : wr .i64 ((0 : Int) + 1) = 1 := wk (by omega) (by omega) (by omega)
  have k2 : wr .i64 ((1 : Int) + 1) = 2 := wk (by omega) (by omega) (by omega)
  have k3 : wr .i64 ((2 : Int) + 1) = 3 := wk (by omega) (by omega) (by omega)
  have k4 : wr .i64 ((3 : Int) + 1) = 4 := wk (by omega) (by omega) (by omega)
  have k5 : wr .i64 ((4 : Int) + 1) = 5 := wk (by omega) (by omega) (by omega)
  have m0 : wr .i64 ((3 : Int) * 0) = 0 := wk (by omega) (by omega) (by omega)
  have m1 : wr .i64 ((3 : Int) * 1) = 3 := wk (by omega) (by omega) (by omega)
  have m2 : wr .i64 ((3 : Int) * 2) = 6 := wk (by omega) (by omega) (by omega)
  have m3 : wr .i64 ((3 : Int) * 3) = 9 := wk (by omega) (by omega) (by omega)
  have m4 : wr .i64 ((3 : Int) * 4) = 12 := wk (by omega) (by omega) (by omega)
  have m5 : wr .i64 ((3 : Int) * 5) = 15 := wk (by omega) (by omega) (by omega)
  have p0 : wr .i64 ((50 : Int) + 0) = 50 := wk (by omega) (by omega) (by omega)
  have p1 : wr .i64 ((50 : Int) + 3) = 53 := wk (by omega) (by omega) (by omega)
  have p2 : wr .i64 ((50 : Int) + 6) = 56 := wk (by omega) (by omega) (by omega)
  have p3 : wr .i64 ((50 : Int) + 9) = 59 := wk (by omega) (by omega) (by omega)
  have p4 : wr .i64 ((50 : Int) + 12) = 62 := wk (by omega) (by omega) (by omega)
  have p5 : wr .i64 ((50 : Int) + 15) = 65 := wk (by omega) (by omega) (by omega)
  simp only [k1, k2, k3, k4, k5, m0, m1, m2, m3, m4, m5, p0, p1, p2, p3, p4, p5, u8t g0, u8t g1, u8t g2, u8t g3, u8t g4, u8t g5, u8a g0, u8a g1, u8a g2, u8a g3, u8a g4, u8a g5, cnd_t]
  clear k1 k2 k3 k4 k5 m0 m1 m2 m3 m4 m5 p0 p1 p2 p3 p4 p5
  obtain ⟨R0, e0, f0⟩ := Add_Hd N 50 (bytesI [97 + a0 % 26]) hR (by omega) (by simp)
  obtain ⟨S0, d0, b0⟩ := Add_Hd N 50 (bytesI [97 + a0 % 26]) hS (by omega) (by simp)
  rw [e0, obind_s, d0, obind_s]
  obtain ⟨R1, e1, f1⟩ := Add_Hd N 53 (bytesI [97 + a1 % 26]) f0 (by omega) (by simp)
  obtain ⟨S1, d1, b1⟩ := Add_Hd N 53 (bytesI [97 + a1 % 26]) b0 (by omega) (by simp)
  rw [e1, obind_s, d1, obind_s]
  obtain ⟨R2, e2, f2⟩ := Add_Hd N 56 (bytesI [97 + a2 % 26]) f1 (by omega) (by simp)
  obtain ⟨S2, d2, b2⟩ := Add_Hd N 56 (bytesI [97 + a2 % 26]) b1 (by omega) (by simp)
  rw [e2, obind_s, d2, obind_s]
  obtain ⟨R3, e3, f3⟩ := Add_Hd N 59 (bytesI [97 + a3 % 26]) f2 (by omega) (by simp)
  obtain ⟨S3, d3, b3⟩ := Add_Hd N 59 (bytesI [97 + a3 % 26]) b2 (by omega) (by simp)
  rw [e3, obind_s, d3, obind_s]
  obtain ⟨R4, e4, f4⟩ := Add_Hd N 62 (bytesI [97 + a4 % 26]) f3 (by omega) (by simp)
  obtain ⟨S4, d4, b4⟩ := Add_Hd N 62 (bytesI [97 + a4 % 26]) b3 (by omega) (by simp)
  rw [e4, obind_s, d4, obind_s]
  obtain ⟨R5, e5, f5⟩ := Add_Hd N 65 (bytesI [97 + a5 % 26]) f4 (by omega) (by simp)
  obtain ⟨S5, d5, b5⟩ := Add_Hd N 65 (bytesI [97 + a5 % 26]) b4 (by omega) (by simp)
  rw [e5, obind_s, d5, obind_s]
  have hf : ∀ {Q : List It} {m : Int} {L : List It}, Hd Q m L → L.length = 6 → Q = L := fun {Q m L} h h6 => by
    obtain ⟨h1, _, P, rfl⟩ := h
    cases P with
    | nil => rfl
    | cons p P => simp only [List.cons_append, List.length_cons, List.length_append] at h1; omega
  have r5 := hf f5 (by simp)
  have s5 := hf b5 (by simp)
  rw [r5, s5, Same_eq N _ (by simp; omega) (by simp), obind_s, cnd_t]
  simp only [List.nil_append, List.cons_append, List.length_cons, List.length_nil]
  rfl
def NN : Nat := 100
theorem law_true (y0 : List Int) (y1 : List Int) (y2 : Int × Int × Int × Int × Int × Int) (h0 : Twf (.list (.int .u8)) y0) (h1 : Twf (.list (.int .u8)) y1) (h2 : Twf (.agg (.pair (.int .u8) (.pair (.int .u8) (.pair (.int .u8) (.pair (.int .u8) (.pair (.int .u8) (.int .u8))))))) y2) : W_law14_RingTurns NN (y0, y1, y2) = some true := by
  obtain ⟨a0, a1, a2, a3, a4, a5⟩ := y2
  obtain ⟨q0, q1, q2, q3, q4, q5⟩ := h2
  exact law_aux NN (Nat.le_refl _) y0 y1 a0 a1 a2 a3 a4 a5 (Twf_u8 h0) (Twf_u8 h1) q0 q1 q2 q3 q4 q5

theorem spec (y0 : List Int) (y1 : List Int) (y2 : Int × Int × Int × Int × Int × Int) (h0 : Twf (.list (.int .u8)) y0) (h1 : Twf (.list (.int .u8)) y1) (h2 : Twf (.agg (.pair (.int .u8) (.pair (.int .u8) (.pair (.int .u8) (.pair (.int .u8) (.pair (.int .u8) (.int .u8))))))) y2) : Spec2 P0 14 [valW (.list (.int .u8)) y0, valW (.list (.int .u8)) y1, valW (.agg (.pair (.int .u8) (.pair (.int .u8) (.pair (.int .u8) (.pair (.int .u8) (.pair (.int .u8) (.int .u8))))))) y2] [] (.bs true) [] [] := (con_law14_RingTurns_ok NN).2 (y0, y1, y2) true (law_true y0 y1 y2 h0 h1 h2)
theorem lifted (os : Os) (started : os.Started) (H : Type) (enc : TypeId × Value → H) :
    ReturnsInHanded {} Try.checked os 14 .any (Rows.ringTurnsSpec.pre6 enc Try.prog Try.f14 Rows.ringTurnsRow.domain false) (Rows.ringTurnsSpec.post enc Try.prog Try.f14 false true false false) := by
  refine returnsInHanded_of_change (C := Try.checked) own started (by kernel_rfl) Try.func14
    (ChangeSpec.witness6 (enc := enc) (C := Try.checked) false ⟨#[], #[.slice none 0 0, .slice none 0 0, .agg #[.int .u8 0, .int .u8 0, .int .u8 0, .int .u8 0, .int .u8 0, .int .u8 0]], []⟩ 8 (by kernel_rfl) (by kernel_rfl) (by kernel_rfl) (by kernel_rfl)) ?_
  intro W base args ds gs before hval0 hW hcnd _
  have hval : ∀ (j : Nat) t v, Try.f14.params[j]? = some t → args[j]? = some v → Value.okWide Try.prog W .any base t v := hval0
  have hW' := hW
  obtain ⟨p, q, hA0, hV, rfl, hfz, hnd⟩ := hW
  have hA : DataW.TrodAll enc Try.prog W 0 (fun _ => true) true Try.f14.params.toList args.toList ds p := hA0
  rw [Try.params14] at hA hval
  obtain ⟨v0, vs0, d0, ds0, p0, q0, hargs, rfl, rfl, h0, r0⟩ := trodAll_cons hA
  obtain ⟨v1, vs1, d1, ds1, p1, q1, rfl, rfl, rfl, h1, r1⟩ := trodAll_cons r0
  obtain ⟨v2, vs2, d2, ds2, p2, q2, rfl, rfl, rfl, h2, r2⟩ := trodAll_cons r1
  obtain ⟨rfl, rfl, rfl⟩ := trodAll_nil r2
  obtain rfl : args = #[v0, v1, v2] := by cases args; simp_all
  obtain ⟨rfl, rfl⟩ := trodVars_none hV
  have k0 := h0
  have lt0 : ∀ x ∈ p0, x.block < W.heap.size := by obtain ⟨m, hm⟩ := k0; exact DataW.trod_lt m _ _ _ hm
  obtain ⟨y0, rp0, wf0⟩ := arg_ok (n := 12) (ty := (.list (.int .u8))) (by kernel_rfl) (hval 0 _ v0 rfl rfl) h0
  have k1 := h1
  have lt1 : ∀ x ∈ p1, x.block < W.heap.size := by obtain ⟨m, hm⟩ := k1; exact DataW.trod_lt m _ _ _ hm
  obtain ⟨y1, rp1, wf1⟩ := arg_ok (n := 12) (ty := (.list (.int .u8))) (by kernel_rfl) (hval 1 _ v1 rfl rfl) h1
  have k2 := h2
  have lt2 : ∀ x ∈ p2, x.block < W.heap.size := by obtain ⟨m, hm⟩ := k2; exact DataW.trod_lt m _ _ _ hm
  obtain ⟨y2, rp2, wf2⟩ := arg_ok (n := 12) (ty := (.agg (.pair (.int .u8) (.pair (.int .u8) (.pair (.int .u8) (.pair (.int .u8) (.pair (.int .u8) (.int .u8)))))))) (by kernel_rfl) (hval 2 _ v2 rfl rfl) h2
  clear hA0 hval0
  refine (law_of2 (spec y0 y1 y2 wf0 wf1 wf2) W #[v0, v1, v2] (.cons rp0 (.cons rp1 (.cons rp2 .nil)))).mono fun e W' ⟨he, bel⟩ => ?_
  subst he
  exact ⟨_, rfl, _, _, _, [], _, [], hW', trodAll_mk1 (shut_bool Try.underlying4 _), (trodAll_cons_mk (Below.trod laidOut (by kernel_rfl) (of_decide_eq_true (by kernel_rfl)) k0 bel lt0) (trodAll_cons_mk (Below.trod laidOut (by kernel_rfl) (of_decide_eq_true (by kernel_rfl)) k1 bel lt1) (trodAll_cons_mk (Below.trod laidOut (by kernel_rfl) (of_decide_eq_true (by kernel_rfl)) k2 bel lt2) trodAll_mk0))), rfl, bel.frame _, fun h => by cases h⟩

theorem over : Rows.ringTurnsRow.holds Try.pinned (OpenSpec.ofChange Rows.ringTurnsSpec) :=
  OpenClaim.holds_of_wide 14 Try.f14 rfl rfl rfl rfl rfl rfl rfl ⟨rfl, rfl, rfl, rfl, rfl⟩ rfl rfl rfl rfl rfl (by kernel_rfl) Try.func14 (by kernel_rfl)
    (of_decide_eq_true (by kernel_rfl)) (by unfold Func.isWrapper; first | (rw [if_pos (by decide +kernel)]; kernel_rfl) | (rw [if_neg (by decide +kernel)]; exact ⟨rfl, rfl⟩))
    (fun os started H enc _ => lifted os started H enc)

theorem holds : Rows.RingTurnsSaid := over
end Go.Proofs.Ytfiiigeigiaaeaa.ringTurnsX
