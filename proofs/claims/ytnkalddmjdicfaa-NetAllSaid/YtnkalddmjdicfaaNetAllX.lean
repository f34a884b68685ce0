/- NetAll: for all arguments the call returns true. The law is brought to a function of Lean's own (W_..) by the machine of the texts beside it, and that is reckoned; no condition. -/
import Derived.Test.YtnkalddmjdicfaaExtDl
import Derived.Test.YtnkalddmjdicfaaExtL
import Derived.Test.YtnkalddmjdicfaaRows
import Derived.WalkKit
import Derived.ProofKit
import Derived.OpenShut
import Derived.ShutString
import Derived.ChangeOld
import Derived.Below
import Derived.Shelf.RegionOpenPlain
import Derived.Deep.RegionLaw
import Derived.Lib.Walk
namespace Go.Proofs.Ytnkalddmjdicfaa.netAllX
open Go.Abs Go.RowKit Go.ChangeShapes Go.WideShapes Go.ChangeAt
set_option maxRecDepth 100000
set_option linter.unusedVariables false
set_option linter.unusedSimpArgs false
noncomputable abbrev P0 : Program := Try.prog
noncomputable def bodyOf (fn : Func) : Code := fn.body.getD .skip
def L0 : Lend := fun f => aget [] [(73, [0])] f
def kpL (l : List Bool) : Nat → Bool := fun j => l.getD j true
theorem own : ownKnob Try.prog.godebug = none := by kernel_rfl
theorem laidOut : laidOutB Try.prog = true := by kernel_rfl
theorem mixed : P0.follows .mixedOrders = true := by decide +kernel
theorem progOk_ : progOk P0 = true := by decide +kernel

theorem delU73 : Try.prog.underlying 46 = some (.slice 45) := by kernel_rfl
theorem delE73 : ∃ (inf : TypeInfo) (z : Value), Try.prog.info? 45 = some inf ∧ inf.size = 3 ∧ inf.zero = some z ∧ z.cells.size = 3 ∧ (∀ u ∈ z.cells.toList, u.oneCell' = true) := delE_of (by kernel_rfl)
set_option maxHeartbeats 4000000 in
theorem delW73 {inf : TypeInfo} {z : Value} (hinf : Try.prog.info? 45 = some inf) (hsz : inf.size = 3) (hzz : inf.zero = some z) (hzs : z.cells.size = 3) (hz1 : ∀ u ∈ z.cells.toList, u.oneCell' = true) (w : World) (b i k c : Nat) (arr : Array Value) (tb : Nat) (fz : Nat × Nat) (cs : List Value) (hmem : w.heap[b]? = some (.cells arr tb fz)) (hf : ∀ j, j < arr.size → ¬ (fz.1 ≤ j ∧ j < fz.2))
    (hi : i < k + 1) (hnc : k + 1 ≤ c) (hn : k + 1 ≤ 140737488355328) (hsize : arr.size = c * 3) (hcs : cs = (arr.toList.take ((k + 1) * 3)).drop ((i + 1) * 3)) (h1c : ∀ u ∈ cs, u.oneCell' = true) (A1 A2 : Array Value)
    (hA1 : A1 = (arr.toList.take (i * 3) ++ (cs ++ arr.toList.drop (i * 3 + cs.length))).toArray) (hA2 : A2 = (A1.toList.take (k * 3) ++ (z.cells.toList ++ A1.toList.drop (k * 3 + z.cells.toList.length))).toArray) :
    Calls Try.prog 73 #[.slice (some ⟨b, 0, none⟩) (k + 1) c, .int .i64 (i : Nat), .int .i64 ((i : Int) + 1)] w fun e w' => e = .returned (.slice (some ⟨b, 0, none⟩) k c) ∧ w' = (w.drew.setRow b A1).setRow b A2 := by
  have mixed := mixed
  have hz2 : ¬ ((i : Int) = (i : Int) + 1) := by omega
  have hcl : cs.length = (k - i) * 3 := by rw [hcs]; simp; omega
  have hA1s : A1.size = arr.size := by rw [hA1]; simp [hcl]; omega
  obtain ⟨Ad, hA, hsrc⟩ : ∃ Ad : Addr, (if c = i + 1 then (some ⟨b, 0, none⟩ : Option Addr) else some ⟨b, (i + 1) * 3, none⟩) = some Ad ∧ (∀ (t : Nat) (u : Value), cs[t]? = some u → w.drew.cell? (Ad.add t) = some u) := by
    by_cases h : c = i + 1
    · refine ⟨⟨b, 0, none⟩, by simp [h], fun t u hu => ?_⟩
      have h0 : cs = [] := List.eq_nil_of_length_eq_zero (by rw [hcl, show k - i = 0 by omega, Nat.zero_mul])
      rw [h0] at hu; simp at hu
    · refine ⟨⟨b, (i + 1) * 3, none⟩, by simp [h], fun t u hu => ?_⟩
      rw [hcs, List.getElem?_drop, List.getElem?_take] at hu
      split at hu
      · rw [Addr.add_lit]
        have e : w.drew.cell? ⟨b, (i + 1) * 3 + t, none⟩ = arr[(i + 1) * 3 + t]? := by simp [World.cell?, show w.drew.heap = w.heap from rfl, hmem]
        rw [e]; simpa using hu
      · cases hu
  obtain ⟨W1, hW1⟩ : ∃ W1, W1 = w.drew.setRow b A1 := ⟨_, rfl⟩
  have hm1 : W1.heap[b]? = some (.cells A1 tb fz) := by rw [hW1]; exact setRow_heap w.drew b arr A1 tb fz hmem
  have hap : ∀ ty m' c', m' = k - i → (Builtin.append_ #[46, 46] ty #[.slice (some ⟨b, 0, none⟩) i c, .slice (some Ad) m' c']).run Try.prog w.drew = .ok (.slice (some ⟨b, 0, none⟩) k c) W1 := fun ty m' c' hm => by
    subst hm
    have h := run_appendR (P := Try.prog) delU73 hinf w.drew hmem hf i c ty Ad (k - i) c' cs (by rw [hsz]; exact hcl) hsrc h1c (by omega) (by rw [hsize, hsz])
    rw [hsz] at h
    rw [h, hW1, hA1, show i + (k - i) = k by omega]
  have hclr : ∀ ty m' c', m' = 1 → (Builtin.clear_ #[46] ty #[.slice (some ⟨b, k * 3, none⟩) m' c']).run Try.prog W1 = .ok (.tuple #[]) (W1.setRow b A2) := fun ty m' c' hm => by
    subst hm
    rw [hA2]
    exact run_clearR (P := Try.prog) delU73 hinf hzz W1 hm1 (by rw [hA1s]; exact hf) (k * 3) c' ty hz1 (by simp [hzs]; rw [hA1s, hsize]; omega)
  have hic : i ≤ c := by omega
  have hjc : i + 1 ≤ c := by omega
  have hb3 : ¬ (c = k) := by omega
  have hb1 : (0 : Int) ≤ (i : Int) + 1 := by omega
  have hb4 : ((k + 1 : Nat) : Int) = (k : Int) + 1 := by omega
  have hb5 : (0 : Int) ≤ (k : Int) := by omega
  have hb6 : (k : Int) ≤ (k : Int) + 1 := by omega
  have hb7 : (k : Int) + 1 ≤ (c : Int) := by omega
  have hb8 : (i : Int) + 1 ≤ (k : Int) + 1 := by omega
  have hb2 : (i : Int) + 1 ≤ ((k + 1 : Nat) : Int) := by omega
  rw [← hW1]
  clear hcs hA1 hA2 hW1 hm1 hsrc hcl
  go_enter Try.func73, Try.ntmps73
  go_wp2_with fail
  go_region_law_o (refine step_append_runR rfl _ _ 46 46 rfl (.slice (some ⟨b, 0, none⟩) i c) (.slice (some Ad) (k - i) (c - (i + 1))) (by simp [Act.eval, Act.put]) (by simp [Act.eval, Act.put]) (hap _ _ _ rfl) ?_)
  go_wp2
  go_ret
  exact ⟨rfl, rfl⟩
theorem delF73 : DelF Try.prog 73 3 := by
  intro w b i n c arr tb fz hmem hsize hf h1c hi hnc hn
  obtain ⟨inf, z, hinf, hsz, hzz, hzs, hz1⟩ := delE73
  obtain ⟨k, rfl⟩ : ∃ k, n = k + 1 := ⟨n - 1, by omega⟩
  simp only [Nat.add_sub_cancel]
  obtain ⟨cs, hcs⟩ : ∃ cs, cs = (arr.toList.take ((k + 1) * 3)).drop ((i + 1) * 3) := ⟨_, rfl⟩
  have hsl : arr.toList.length = arr.size := Array.length_toList
  have hcl : cs.length = (k - i) * 3 := by rw [hcs, List.length_drop, List.length_take, hsl, hsize]; omega
  have hzl : z.cells.toList.length = 3 := by rw [Array.length_toList, hzs]
  refine (delW73 hinf hsz hzz hzs hz1 w b i k c arr tb fz cs hmem hf hi hnc hn hsize hcs (fun u hu => h1c u (by rw [hcs] at hu; exact List.mem_of_mem_drop hu)) _ _ rfl rfl).mono fun x w' => ?_
  rintro ⟨rfl, rfl⟩
  have hA1s : (arr.toList.take (i * 3) ++ (cs ++ arr.toList.drop (i * 3 + cs.length))).toArray.size = arr.size := by simp [hcl]; omega
  have hm1 := setRow_heap w.drew b arr (arr.toList.take (i * 3) ++ (cs ++ arr.toList.drop (i * 3 + cs.length))).toArray tb fz hmem
  have hA1t : (arr.toList.take (i * 3) ++ (cs ++ arr.toList.drop (i * 3 + cs.length))).toArray.toList.take (k * 3) = arr.toList.take (i * 3) ++ cs := by
    rw [List.toList_toArray, ← List.append_assoc]
    exact List.take_left' (by rw [List.length_append, List.length_take, hcl, hsl, hsize]; omega)
  generalize hA1 : (arr.toList.take (i * 3) ++ (cs ++ arr.toList.drop (i * 3 + cs.length))).toArray = A1 at *
  have hA1l : A1.toList.length = A1.size := Array.length_toList
  have hA2s : (A1.toList.take (k * 3) ++ (z.cells.toList ++ A1.toList.drop (k * 3 + z.cells.toList.length))).toArray.size = A1.size := by simp only [List.size_toArray, List.length_append, List.length_take, List.length_drop, hzl, hA1l, hA1s, hsize]; omega
  have hm2 := setRow_heap (w.drew.setRow b A1) b A1 (A1.toList.take (k * 3) ++ (z.cells.toList ++ A1.toList.drop (k * 3 + z.cells.toList.length))).toArray tb fz hm1
  refine ⟨rfl, rfl, rfl, rfl, _, hm2, by rw [hA2s, hA1s], ?_, by simp [World.setRow], fun j hj => ?_⟩
  · rw [List.toList_toArray, List.take_left' (by rw [List.length_take, hA1l, hA1s, hsize]; omega), hA1t, hcs]
  · rw [setRow_other _ _ _ _ hj, setRow_other _ _ _ _ hj]; rfl

noncomputable def con_law13_begun (N : Nat) : Con := ⟨31, [], [], Unit, fun _ => some (), fun _ => (.bs true, [], [])⟩
theorem con_law13_begun_ok (N : Nat) : Con.ok P0 (con_law13_begun N) := closed_con2 (nonJ_ok _) mixed progOk_ (noneΞ_ok2 _) (inl := [73]) (breath := 100000) (n := 60) (by kernel_rfl)
def as_slices_Clone_api_Gram : List AS := [.val (.list (.agg (.pair (.int .i64) (.pair .str .bool))))]
def bs_slices_Clone_api_Gram : List BS := []
def pout_slices_Clone_api_Gram : Pat := ⟨[(2, .acc 700005)], [(700005, .nrow 45 (.agg (.pair (.int .i64) (.pair .str .bool))) false true)]⟩
noncomputable def G_slices_Clone_api_Gram  (N : Nat) : OrcT := orcOf []
noncomputable def F_slices_Clone_api_Gram  (N : Nat) (x : List (Int × (List UInt8) × Bool)) : Option (List (Int × (List UInt8) × Bool)) :=
  (evT (G_slices_Clone_api_Gram  N) L0 P0 []
    [] N 400 (bodyOf Try.f71) ⟨8, slots 0 [.nl ⟨(.agg (.pair (.int .i64) (.pair .str .bool))), x⟩], tabU (lbOf as_slices_Clone_api_Gram bs_slices_Clone_api_Gram x) [], []⟩).elim (kRet 8 pout_slices_Clone_api_Gram (kpL []) (lbOf as_slices_Clone_api_Gram bs_slices_Clone_api_Gram x))
def out_slices_Clone_api_Gram (y : List (Int × (List UInt8) × Bool)) : V × List OK × List OK := (.acc 2000000 0, [], [.nrow 45 false true ⟨(.agg (.pair (.int .i64) (.pair .str .bool))), y⟩])
noncomputable def V_slices_Clone_api_Gram  (N : Nat) (x : List (Int × (List UInt8) × Bool)) : Option (List (Int × (List UInt8) × Bool)) :=
  cnd (decide (List.length x * (32 : Nat) ≤ (140737488355328 : Nat))) (some x) none
theorem FV_slices_Clone_api_Gram_eq  (N : Nat) (x : List (Int × (List UInt8) × Bool)) : F_slices_Clone_api_Gram  N x = V_slices_Clone_api_Gram  N x := by kernel_rfl
noncomputable def W_slices_Clone_api_Gram (N : Nat) (x : List (Int × (List UInt8) × Bool)) : Option (List (Int × (List UInt8) × Bool)) :=
  cnd (decide (List.length x * (32 : Nat) ≤ (140737488355328 : Nat))) (some x) none
theorem F_slices_Clone_api_Gram_eq (N : Nat) (x : List (Int × (List UInt8) × Bool)) : F_slices_Clone_api_Gram  N x = W_slices_Clone_api_Gram N x := (FV_slices_Clone_api_Gram_eq  N x).trans (by kernel_rfl)
noncomputable def conw_slices_Clone_api_Gram (w : List (Int × (List UInt8) × Bool) → Option (List (Int × (List UInt8) × Bool))) : Con := ⟨71, as_slices_Clone_api_Gram, bs_slices_Clone_api_Gram, List (Int × (List UInt8) × Bool), w, out_slices_Clone_api_Gram⟩
noncomputable def con_slices_Clone_api_Gram (N : Nat) : Con := conw_slices_Clone_api_Gram (W_slices_Clone_api_Gram N)
theorem R_slices_Clone_api_Gram_eq (x : List (Int × (List UInt8) × Bool)) (y : List (Int × (List UInt8) × Bool)) : retOf2 P0 Try.f71 (kpL []) (lbOf as_slices_Clone_api_Gram bs_slices_Clone_api_Gram x) (patS ⟨8, [], [], []⟩ pout_slices_Clone_api_Gram y) = some (out_slices_Clone_api_Gram y) := by kernel_rfl
noncomputable def FA_slices_Clone_api_Gram : Option (List (Int × (List UInt8) × Bool)) := (evT (G_slices_Clone_api_Gram 1) L0 P0 [] [] 1 400 (bodyOf Try.f71) ⟨8, slots 0 [.snil], tabU [] [], []⟩).elim (kRet 8 pout_slices_Clone_api_Gram (kpL []) [])
theorem FA_slices_Clone_api_Gram_eq : FA_slices_Clone_api_Gram = some [] := by kernel_rfl
theorem WN_slices_Clone_api_Gram (N : Nat) (r : List (Int × (List UInt8) × Bool)) (h : W_slices_Clone_api_Gram N [] = some r) : r = [] := by
  have e : W_slices_Clone_api_Gram N [] = some [] := by kernel_rfl
  rw [e] at h; injection h with h; exact h.symm
theorem con_slices_Clone_api_Gram_ok (N : Nat) : Con.ok P0 (con_slices_Clone_api_Gram N) := ⟨⟨Try.f71, Try.func71, by kernel_rfl, by kernel_rfl⟩, fun (x : List (Int × (List UInt8) × Bool)) (r : List (Int × (List UInt8) × Bool)) (hr : W_slices_Clone_api_Gram N x = some r) =>
  clone_split (e := (.agg (.pair (.int .i64) (.pair .str .bool)))) (ty := 45) (l := x) (r := r)
    (spec2_evT (Γ := G_slices_Clone_api_Gram 1) (Λ := L0) (lb := []) (pout := pout_slices_Clone_api_Gram) (kp := kpL []) mixed (orcOf_ok [] (by simp)) Try.func71 (c := bodyOf Try.f71) (by kernel_rfl) (by kernel_rfl) (of_decide_eq_true (by kernel_rfl)) FA_slices_Clone_api_Gram_eq (R_slices_Clone_api_Gram_eq x []))
    (spec2_evT (Γ := G_slices_Clone_api_Gram N) (Λ := L0) (lb := []) (pout := pout_slices_Clone_api_Gram) (kp := kpL []) mixed (orcOf_ok [] (by simp)) Try.func71 (c := bodyOf Try.f71) (by kernel_rfl) (by kernel_rfl) (of_decide_eq_true (by kernel_rfl)) ((F_slices_Clone_api_Gram_eq N x).trans hr) (R_slices_Clone_api_Gram_eq x r))
    (fun h => by subst h; exact WN_slices_Clone_api_Gram N r hr)⟩
def as_net_Send : List AS := [.val (.list (.agg (.pair (.int .i64) (.pair .str .bool)))), .val (.agg (.pair (.int .i64) (.pair .str .bool)))]
def bs_net_Send : List BS := []
def pout_net_Send : Pat := ⟨[(4, .val (.list (.agg (.pair (.int .i64) (.pair .str .bool)))))], []⟩
noncomputable def G_net_Send (w_slices_Clone_api_Gram : List (Int × (List UInt8) × Bool) → Option (List (Int × (List UInt8) × Bool))) (N : Nat) : OrcT := orcOf [conw_slices_Clone_api_Gram w_slices_Clone_api_Gram]
noncomputable def F_net_Send (w_slices_Clone_api_Gram : List (Int × (List UInt8) × Bool) → Option (List (Int × (List UInt8) × Bool))) (N : Nat) (x : (List (Int × (List UInt8) × Bool)) × Int × (List UInt8) × Bool) : Option (List (Int × (List UInt8) × Bool)) :=
  (evT (G_net_Send w_slices_Clone_api_Gram N) L0 P0 []
    [] N 400 (bodyOf Try.f32) ⟨16, slots 0 (argsOf as_net_Send bs_net_Send x), tabU (lbOf as_net_Send bs_net_Send x) [], []⟩).elim (kRet 16 pout_net_Send (kpL []) (lbOf as_net_Send bs_net_Send x))
def out_net_Send (y : List (Int × (List UInt8) × Bool)) : V × List OK × List OK := (valW (.list (.agg (.pair (.int .i64) (.pair .str .bool)))) y, [], [])
noncomputable def V_net_Send (w_slices_Clone_api_Gram : List (Int × (List UInt8) × Bool) → Option (List (Int × (List UInt8) × Bool))) (N : Nat) (x : (List (Int × (List UInt8) × Bool)) × Int × (List UInt8) × Bool) : Option (List (Int × (List UInt8) × Bool)) :=
  obind (w_slices_Clone_api_Gram (Prod.fst x)) fun (b : List (Int × List UInt8 × Bool)) =>
    cnd (decide ((60 : Int) ≤ (↑(List.length (Prod.fst x)) : Int))) (some b)
      (cnd
        (decide
          ((List.length b +
                List.length
                  [(Prod.fst (Prod.snd x), Prod.fst (Prod.snd (Prod.snd x)), Prod.snd (Prod.snd (Prod.snd x)))]) *
              (32 : Nat) ≤
            (140737488355328 : Nat)))
        (some (b ++ [(Prod.fst (Prod.snd x), Prod.fst (Prod.snd (Prod.snd x)), Prod.snd (Prod.snd (Prod.snd x)))])) none)
theorem FV_net_Send_eq (w_slices_Clone_api_Gram : List (Int × (List UInt8) × Bool) → Option (List (Int × (List UInt8) × Bool))) (N : Nat) (x : (List (Int × (List UInt8) × Bool)) × Int × (List UInt8) × Bool) : F_net_Send w_slices_Clone_api_Gram N x = V_net_Send w_slices_Clone_api_Gram N x := by kernel_rfl
noncomputable def W_net_Send (N : Nat) (x : (List (Int × (List UInt8) × Bool)) × Int × (List UInt8) × Bool) : Option (List (Int × (List UInt8) × Bool)) :=
  obind (W_slices_Clone_api_Gram N (Prod.fst x)) fun (b : List (Int × List UInt8 × Bool)) =>
    cnd (decide ((60 : Int) ≤ (↑(List.length (Prod.fst x)) : Int))) (some b)
      (cnd
        (decide
          ((List.length b +
                List.length
                  [(Prod.fst (Prod.snd x), Prod.fst (Prod.snd (Prod.snd x)), Prod.snd (Prod.snd (Prod.snd x)))]) *
              (32 : Nat) ≤
            (140737488355328 : Nat)))
        (some (b ++ [(Prod.fst (Prod.snd x), Prod.fst (Prod.snd (Prod.snd x)), Prod.snd (Prod.snd (Prod.snd x)))])) none)
theorem F_net_Send_eq (N : Nat) (x : (List (Int × (List UInt8) × Bool)) × Int × (List UInt8) × Bool) : F_net_Send (W_slices_Clone_api_Gram N) N x = W_net_Send N x := (FV_net_Send_eq (W_slices_Clone_api_Gram N) N x).trans (by kernel_rfl)
noncomputable def conw_net_Send (w : (List (Int × (List UInt8) × Bool)) × Int × (List UInt8) × Bool → Option (List (Int × (List UInt8) × Bool))) : Con := ⟨32, as_net_Send, bs_net_Send, List (Int × (List UInt8) × Bool), w, out_net_Send⟩
noncomputable def con_net_Send (N : Nat) : Con := conw_net_Send (W_net_Send N)
theorem R_net_Send_eq (x : (List (Int × (List UInt8) × Bool)) × Int × (List UInt8) × Bool) (y : List (Int × (List UInt8) × Bool)) : retOf2 P0 Try.f32 (kpL []) (lbOf as_net_Send bs_net_Send x) (patS ⟨16, [], [], []⟩ pout_net_Send y) = some (out_net_Send y) := by kernel_rfl
theorem con_net_Send_ok (N : Nat) : Con.ok P0 (con_net_Send N) := ⟨⟨Try.f32, Try.func32, by kernel_rfl, by kernel_rfl⟩, fun (x : (List (Int × (List UInt8) × Bool)) × Int × (List UInt8) × Bool) (r : List (Int × (List UInt8) × Bool)) (hr : W_net_Send N x = some r) =>
  spec2_evT (Γ := G_net_Send (W_slices_Clone_api_Gram N) N) (Λ := L0) (pout := pout_net_Send) (kp := kpL []) mixed (orcOf_ok _ (by simp only [List.mem_cons, List.not_mem_nil, or_false, forall_eq_or_imp, forall_eq]; exact con_slices_Clone_api_Gram_ok N)) Try.func32 (c := bodyOf Try.f32) (by kernel_rfl) (by kernel_rfl) (of_decide_eq_true (by kernel_rfl)) ((F_net_Send_eq N x).trans hr) (R_net_Send_eq x r)⟩
def as_ref13_Send : List AS := [.val (.list (.agg (.pair (.int .i64) (.pair .str .bool)))), .val (.agg (.pair (.int .i64) (.pair .str .bool)))]
def bs_ref13_Send : List BS := []
def pout_ref13_Send : Pat := ⟨[(4, .val (.list (.agg (.pair (.int .i64) (.pair .str .bool)))))], []⟩
noncomputable def G_ref13_Send  (N : Nat) : OrcT := orcOf []
noncomputable def F_ref13_Send  (N : Nat) (x : (List (Int × (List UInt8) × Bool)) × Int × (List UInt8) × Bool) : Option (List (Int × (List UInt8) × Bool)) :=
  (evT (G_ref13_Send  N) L0 P0 []
    [] N 400 (bodyOf Try.f33) ⟨17, slots 0 (argsOf as_ref13_Send bs_ref13_Send x), tabU (lbOf as_ref13_Send bs_ref13_Send x) [], []⟩).elim (kRet 17 pout_ref13_Send (kpL []) (lbOf as_ref13_Send bs_ref13_Send x))
def out_ref13_Send (y : List (Int × (List UInt8) × Bool)) : V × List OK × List OK := (valW (.list (.agg (.pair (.int .i64) (.pair .str .bool)))) y, [], [])
noncomputable def V_ref13_Send  (N : Nat) (x : (List (Int × (List UInt8) × Bool)) × Int × (List UInt8) × Bool) : Option (List (Int × (List UInt8) × Bool)) :=
  cnd (decide (List.length (Prod.fst x) * (32 : Nat) ≤ (140737488355328 : Nat)))
    (cnd (decide ((↑(List.length (Prod.fst x)) : Int) < (60 : Int)))
      (cnd
        (decide
          ((List.length (Prod.fst x) +
                List.length
                  [(Prod.fst (Prod.snd x), Prod.fst (Prod.snd (Prod.snd x)), Prod.snd (Prod.snd (Prod.snd x)))]) *
              (32 : Nat) ≤
            (140737488355328 : Nat)))
        (some
          (Prod.fst x ++ [(Prod.fst (Prod.snd x), Prod.fst (Prod.snd (Prod.snd x)), Prod.snd (Prod.snd (Prod.snd x)))]))
        none)
      (some (Prod.fst x)))
    none
theorem FV_ref13_Send_eq  (N : Nat) (x : (List (Int × (List UInt8) × Bool)) × Int × (List UInt8) × Bool) : F_ref13_Send  N x = V_ref13_Send  N x := by kernel_rfl
noncomputable def W_ref13_Send (N : Nat) (x : (List (Int × (List UInt8) × Bool)) × Int × (List UInt8) × Bool) : Option (List (Int × (List UInt8) × Bool)) :=
  cnd (decide (List.length (Prod.fst x) * (32 : Nat) ≤ (140737488355328 : Nat)))
    (cnd (decide ((↑(List.length (Prod.fst x)) : Int) < (60 : Int)))
      (cnd
        (decide
          ((List.length (Prod.fst x) +
                List.length
                  [(Prod.fst (Prod.snd x), Prod.fst (Prod.snd (Prod.snd x)), Prod.snd (Prod.snd (Prod.snd x)))]) *
              (32 : Nat) ≤
            (140737488355328 : Nat)))
        (some
          (Prod.fst x ++ [(Prod.fst (Prod.snd x), Prod.fst (Prod.snd (Prod.snd x)), Prod.snd (Prod.snd (Prod.snd x)))]))
        none)
      (some (Prod.fst x)))
    none
theorem F_ref13_Send_eq (N : Nat) (x : (List (Int × (List UInt8) × Bool)) × Int × (List UInt8) × Bool) : F_ref13_Send  N x = W_ref13_Send N x := (FV_ref13_Send_eq  N x).trans (by kernel_rfl)
noncomputable def conw_ref13_Send (w : (List (Int × (List UInt8) × Bool)) × Int × (List UInt8) × Bool → Option (List (Int × (List UInt8) × Bool))) : Con := ⟨33, as_ref13_Send, bs_ref13_Send, List (Int × (List UInt8) × Bool), w, out_ref13_Send⟩
noncomputable def con_ref13_Send (N : Nat) : Con := conw_ref13_Send (W_ref13_Send N)
theorem R_ref13_Send_eq (x : (List (Int × (List UInt8) × Bool)) × Int × (List UInt8) × Bool) (y : List (Int × (List UInt8) × Bool)) : retOf2 P0 Try.f33 (kpL []) (lbOf as_ref13_Send bs_ref13_Send x) (patS ⟨17, [], [], []⟩ pout_ref13_Send y) = some (out_ref13_Send y) := by kernel_rfl
theorem con_ref13_Send_ok (N : Nat) : Con.ok P0 (con_ref13_Send N) := ⟨⟨Try.f33, Try.func33, by kernel_rfl, by kernel_rfl⟩, fun (x : (List (Int × (List UInt8) × Bool)) × Int × (List UInt8) × Bool) (r : List (Int × (List UInt8) × Bool)) (hr : W_ref13_Send N x = some r) =>
  spec2_evT (Γ := G_ref13_Send N) (Λ := L0) (pout := pout_ref13_Send) (kp := kpL []) mixed (orcOf_ok [] (by simp)) Try.func33 (c := bodyOf Try.f33) (by kernel_rfl) (by kernel_rfl) (of_decide_eq_true (by kernel_rfl)) ((F_ref13_Send_eq N x).trans hr) (R_ref13_Send_eq x r)⟩
def as_net_there : List AS := [.val (.list (.agg (.pair (.int .i64) (.pair .str .bool)))), .val (.int .i64)]
def bs_net_there : List BS := []
def pout_net_there : Pat := ⟨[(4, .val .bool)], []⟩
noncomputable def G_net_there  (N : Nat) : OrcT := orcOf []
noncomputable def F_net_there  (N : Nat) (x : (List (Int × (List UInt8) × Bool)) × Int) : Option (Bool) :=
  (evT (G_net_there  N) L0 P0 []
    [] N 400 (bodyOf Try.f72) ⟨13, slots 0 (argsOf as_net_there bs_net_there x), tabU (lbOf as_net_there bs_net_there x) [], []⟩).elim (kRet 13 pout_net_there (kpL []) (lbOf as_net_there bs_net_there x))
def out_net_there (y : Bool) : V × List OK × List OK := (valW .bool y, [], [])
noncomputable def V_net_there  (N : Nat) (x : (List (Int × (List UInt8) × Bool)) × Int) : Option (Bool) :=
  cnd (decide ((0 : Int) ≤ Prod.snd x)) (some (decide (Prod.snd x < (↑(List.length (Prod.fst x)) : Int)))) (some false)
theorem FV_net_there_eq  (N : Nat) (x : (List (Int × (List UInt8) × Bool)) × Int) : F_net_there  N x = V_net_there  N x := by kernel_rfl
noncomputable def W_net_there (N : Nat) (x : (List (Int × (List UInt8) × Bool)) × Int) : Option (Bool) :=
  cnd (decide ((0 : Int) ≤ Prod.snd x)) (some (decide (Prod.snd x < (↑(List.length (Prod.fst x)) : Int)))) (some false)
theorem F_net_there_eq (N : Nat) (x : (List (Int × (List UInt8) × Bool)) × Int) : F_net_there  N x = W_net_there N x := (FV_net_there_eq  N x).trans (by kernel_rfl)
noncomputable def conw_net_there (w : (List (Int × (List UInt8) × Bool)) × Int → Option (Bool)) : Con := ⟨72, as_net_there, bs_net_there, Bool, w, out_net_there⟩
noncomputable def con_net_there (N : Nat) : Con := conw_net_there (W_net_there N)
theorem R_net_there_eq (x : (List (Int × (List UInt8) × Bool)) × Int) (y : Bool) : retOf2 P0 Try.f72 (kpL []) (lbOf as_net_there bs_net_there x) (patS ⟨13, [], [], []⟩ pout_net_there y) = some (out_net_there y) := by kernel_rfl
theorem con_net_there_ok (N : Nat) : Con.ok P0 (con_net_there N) := ⟨⟨Try.f72, Try.func72, by kernel_rfl, by kernel_rfl⟩, fun (x : (List (Int × (List UInt8) × Bool)) × Int) (r : Bool) (hr : W_net_there N x = some r) =>
  spec2_evT (Γ := G_net_there N) (Λ := L0) (pout := pout_net_there) (kp := kpL []) mixed (orcOf_ok [] (by simp)) Try.func72 (c := bodyOf Try.f72) (by kernel_rfl) (by kernel_rfl) (of_decide_eq_true (by kernel_rfl)) ((F_net_there_eq N x).trans hr) (R_net_there_eq x r)⟩
def as_slices_Delete_api_Gram : List AS := [.acc 0, .val (.int .i64), .val (.int .i64)]
def bs_slices_Delete_api_Gram : List BS := [.nrow 45 (.agg (.pair (.int .i64) (.pair .str .bool))) true]
def out_slices_Delete_api_Gram (y : List (Int × (List UInt8) × Bool)) : V × List OK × List OK := (.acc 2000000 0, [.dead], [.nrow 45 false false ⟨(.agg (.pair (.int .i64) (.pair .str .bool))), y⟩])
noncomputable def W_slices_Delete_api_Gram (N : Nat) (x : Int × Int × List (Int × (List UInt8) × Bool)) : Option (List (Int × (List UInt8) × Bool)) :=
  cnd (decide ((0 : Int) ≤ Prod.fst x) && decide (Prod.fst x < ((↑(List.length (Prod.snd (Prod.snd x))) : Int) : Int)) && decide (Prod.fst (Prod.snd x) = Prod.fst x + (1 : Int)) && decide (List.length (Prod.snd (Prod.snd x)) ≤ (140737488355328 : Nat))) (some (List.take (Int.toNat (Prod.fst x)) (Prod.snd (Prod.snd x)) ++ List.drop (Int.toNat (Prod.fst x) + (1 : Nat)) (Prod.snd (Prod.snd x)))) none
noncomputable def conw_slices_Delete_api_Gram (w : Int × Int × List (Int × (List UInt8) × Bool) → Option (List (Int × (List UInt8) × Bool))) : Con := ⟨73, as_slices_Delete_api_Gram, bs_slices_Delete_api_Gram, List (Int × (List UInt8) × Bool), w, out_slices_Delete_api_Gram⟩
noncomputable def con_slices_Delete_api_Gram (N : Nat) : Con := conw_slices_Delete_api_Gram (W_slices_Delete_api_Gram N)
theorem con_slices_Delete_api_Gram_ok (N : Nat) : Con.ok P0 (con_slices_Delete_api_Gram N) := ⟨⟨Try.f73, Try.func73, by kernel_rfl, by kernel_rfl⟩, fun (x : Int × Int × List (Int × (List UInt8) × Bool)) (r : List (Int × (List UInt8) × Bool)) (hr : W_slices_Delete_api_Gram N x = some r) => by
  obtain ⟨i, j, l⟩ := x
  exact del_con1 (e := (.agg (.pair (.int .i64) (.pair .str .bool)))) (ty := 45) (nl := true) (l := l) (r := r) (i := i) (j := j) delF73 rfl (by decide) hr⟩
def as_net_Lost : List AS := [.val (.list (.agg (.pair (.int .i64) (.pair .str .bool)))), .val (.int .i64)]
def bs_net_Lost : List BS := []
def pout_net_Lost : Pat := ⟨[(4, .val (.list (.agg (.pair (.int .i64) (.pair .str .bool))))), (5, .val .bool)], []⟩
noncomputable def G_net_Lost (w_slices_Clone_api_Gram : List (Int × (List UInt8) × Bool) → Option (List (Int × (List UInt8) × Bool))) (w_net_there : (List (Int × (List UInt8) × Bool)) × Int → Option (Bool)) (w_slices_Delete_api_Gram : Int × Int × List (Int × (List UInt8) × Bool) → Option (List (Int × (List UInt8) × Bool))) (N : Nat) : OrcT := orcOf [conw_slices_Clone_api_Gram w_slices_Clone_api_Gram, conw_net_there w_net_there, conw_slices_Delete_api_Gram w_slices_Delete_api_Gram]
noncomputable def F_net_Lost (w_slices_Clone_api_Gram : List (Int × (List UInt8) × Bool) → Option (List (Int × (List UInt8) × Bool))) (w_net_there : (List (Int × (List UInt8) × Bool)) × Int → Option (Bool)) (w_slices_Delete_api_Gram : Int × Int × List (Int × (List UInt8) × Bool) → Option (List (Int × (List UInt8) × Bool))) (N : Nat) (x : (List (Int × (List UInt8) × Bool)) × Int) : Option ((List (Int × (List UInt8) × Bool)) × Bool) :=
  (evT (G_net_Lost w_slices_Clone_api_Gram w_net_there w_slices_Delete_api_Gram N) L0 P0 []
    [] N 400 (bodyOf Try.f36) ⟨19, slots 0 (argsOf as_net_Lost bs_net_Lost x), tabU (lbOf as_net_Lost bs_net_Lost x) [], []⟩).elim (kRet 19 pout_net_Lost (kpL []) (lbOf as_net_Lost bs_net_Lost x))
def out_net_Lost (y : (List (Int × (List UInt8) × Bool)) × Bool) : V × List OK × List OK := (.tup [valW (.list (.agg (.pair (.int .i64) (.pair .str .bool)))) y.1, valW .bool y.2], [], [])
noncomputable def V_net_Lost (w_slices_Clone_api_Gram : List (Int × (List UInt8) × Bool) → Option (List (Int × (List UInt8) × Bool))) (w_net_there : (List (Int × (List UInt8) × Bool)) × Int → Option (Bool)) (w_slices_Delete_api_Gram : Int × Int × List (Int × (List UInt8) × Bool) → Option (List (Int × (List UInt8) × Bool))) (N : Nat) (x : (List (Int × (List UInt8) × Bool)) × Int) : Option ((List (Int × (List UInt8) × Bool)) × Bool) :=
  obind (w_slices_Clone_api_Gram (Prod.fst x)) fun (b : List (Int × List UInt8 × Bool)) =>
    obind (w_net_there (Prod.fst x, Prod.snd x)) fun (b_1 : Bool) =>
      cnd (!b_1) (some (b, false))
        (obind (w_slices_Delete_api_Gram (Prod.snd x, wr IntKind.i64 (Prod.snd x + (1 : Int)), b))
          fun (b : List (Int × List UInt8 × Bool)) => some (b, true))
theorem FV_net_Lost_eq (w_slices_Clone_api_Gram : List (Int × (List UInt8) × Bool) → Option (List (Int × (List UInt8) × Bool))) (w_net_there : (List (Int × (List UInt8) × Bool)) × Int → Option (Bool)) (w_slices_Delete_api_Gram : Int × Int × List (Int × (List UInt8) × Bool) → Option (List (Int × (List UInt8) × Bool))) (N : Nat) (x : (List (Int × (List UInt8) × Bool)) × Int) : F_net_Lost w_slices_Clone_api_Gram w_net_there w_slices_Delete_api_Gram N x = V_net_Lost w_slices_Clone_api_Gram w_net_there w_slices_Delete_api_Gram N x := by kernel_rfl
noncomputable def W_net_Lost (N : Nat) (x : (List (Int × (List UInt8) × Bool)) × Int) : Option ((List (Int × (List UInt8) × Bool)) × Bool) :=
  obind (W_slices_Clone_api_Gram N (Prod.fst x)) fun (b : List (Int × List UInt8 × Bool)) =>
    obind (W_net_there N (Prod.fst x, Prod.snd x)) fun (b_1 : Bool) =>
      cnd (!b_1) (some (b, false))
        (obind (W_slices_Delete_api_Gram N (Prod.snd x, wr IntKind.i64 (Prod.snd x + (1 : Int)), b))
          fun (b : List (Int × List UInt8 × Bool)) => some (b, true))
theorem F_net_Lost_eq (N : Nat) (x : (List (Int × (List UInt8) × Bool)) × Int) : F_net_Lost (W_slices_Clone_api_Gram N) (W_net_there N) (W_slices_Delete_api_Gram N) N x = W_net_Lost N x := (FV_net_Lost_eq (W_slices_Clone_api_Gram N) (W_net_there N) (W_slices_Delete_api_Gram N) N x).trans (by kernel_rfl)
noncomputable def conw_net_Lost (w : (List (Int × (List UInt8) × Bool)) × Int → Option ((List (Int × (List UInt8) × Bool)) × Bool)) : Con := ⟨36, as_net_Lost, bs_net_Lost, (List (Int × (List UInt8) × Bool)) × Bool, w, out_net_Lost⟩
noncomputable def con_net_Lost (N : Nat) : Con := conw_net_Lost (W_net_Lost N)
theorem R_net_Lost_eq (x : (List (Int × (List UInt8) × Bool)) × Int) (y : (List (Int × (List UInt8) × Bool)) × Bool) : retOf2 P0 Try.f36 (kpL []) (lbOf as_net_Lost bs_net_Lost x) (patS ⟨19, [], [], []⟩ pout_net_Lost y) = some (out_net_Lost y) := by kernel_rfl
theorem con_net_Lost_ok (N : Nat) : Con.ok P0 (con_net_Lost N) := ⟨⟨Try.f36, Try.func36, by kernel_rfl, by kernel_rfl⟩, fun (x : (List (Int × (List UInt8) × Bool)) × Int) (r : (List (Int × (List UInt8) × Bool)) × Bool) (hr : W_net_Lost N x = some r) =>
  spec2_evT (Γ := G_net_Lost (W_slices_Clone_api_Gram N) (W_net_there N) (W_slices_Delete_api_Gram N) N) (Λ := L0) (pout := pout_net_Lost) (kp := kpL []) mixed (orcOf_ok _ (by simp only [List.mem_cons, List.not_mem_nil, or_false, forall_eq_or_imp, forall_eq]; exact ⟨con_slices_Clone_api_Gram_ok N, con_net_there_ok N, con_slices_Delete_api_Gram_ok N⟩)) Try.func36 (c := bodyOf Try.f36) (by kernel_rfl) (by kernel_rfl) (of_decide_eq_true (by kernel_rfl)) ((F_net_Lost_eq N x).trans hr) (R_net_Lost_eq x r)⟩
def as_net_Comes : List AS := [.val (.list (.agg (.pair (.int .i64) (.pair .str .bool)))), .val (.int .i64)]
def bs_net_Comes : List BS := []
def pout_net_Comes : Pat := ⟨[(4, .val (.list (.agg (.pair (.int .i64) (.pair .str .bool))))), (5, .ptr 600005 0), (6, .val .bool)], [(600005, .box 45 (.val (.pair (.int .i64) (.pair .str .bool))))]⟩
noncomputable def G_net_Comes (w_net_Lost : (List (Int × (List UInt8) × Bool)) × Int → Option ((List (Int × (List UInt8) × Bool)) × Bool)) (N : Nat) : OrcT := orcOf [conw_net_Lost w_net_Lost]
noncomputable def F_net_Comes (w_net_Lost : (List (Int × (List UInt8) × Bool)) × Int → Option ((List (Int × (List UInt8) × Bool)) × Bool)) (N : Nat) (x : (List (Int × (List UInt8) × Bool)) × Int) : Option ((List (Int × (List UInt8) × Bool)) × Bool × Int × (List UInt8) × Bool) :=
  (evT (G_net_Comes w_net_Lost N) L0 P0 []
    [] N 400 (bodyOf Try.f34) ⟨24, slots 0 (argsOf as_net_Comes bs_net_Comes x), tabU (lbOf as_net_Comes bs_net_Comes x) [], []⟩).elim (kRet 24 pout_net_Comes (kpL []) (lbOf as_net_Comes bs_net_Comes x))
def out_net_Comes (y : (List (Int × (List UInt8) × Bool)) × Bool × Int × (List UInt8) × Bool) : V × List OK × List OK := (.tup [valW (.list (.agg (.pair (.int .i64) (.pair .str .bool)))) y.1, valW (.agg (.pair (.int .i64) (.pair .str .bool))) y.2.2, valW .bool y.2.1], [], [])
noncomputable def V_net_Comes (w_net_Lost : (List (Int × (List UInt8) × Bool)) × Int → Option ((List (Int × (List UInt8) × Bool)) × Bool)) (N : Nat) (x : (List (Int × (List UInt8) × Bool)) × Int) : Option ((List (Int × (List UInt8) × Bool)) × Bool × Int × (List UInt8) × Bool) :=
  obind (w_net_Lost (Prod.fst x, Prod.snd x)) fun (b : List (Int × List UInt8 × Bool) × Bool) =>
    cnd (!Prod.snd b) (some (Prod.fst b, false, (0 : Int), [], false))
      (cnd (decide ((0 : Int) ≤ Prod.snd x) && decide (Prod.snd x < (↑(List.length (Prod.fst x)) : Int)))
        (some
          (Prod.fst b, true, Prod.fst (List.getD (Prod.fst x) (Int.toNat (Prod.snd x)) ((0 : Int), [], false)),
            Prod.fst (Prod.snd (List.getD (Prod.fst x) (Int.toNat (Prod.snd x)) ((0 : Int), [], false))),
            Prod.snd (Prod.snd (List.getD (Prod.fst x) (Int.toNat (Prod.snd x)) ((0 : Int), [], false)))))
        none)
theorem FV_net_Comes_eq (w_net_Lost : (List (Int × (List UInt8) × Bool)) × Int → Option ((List (Int × (List UInt8) × Bool)) × Bool)) (N : Nat) (x : (List (Int × (List UInt8) × Bool)) × Int) : F_net_Comes w_net_Lost N x = V_net_Comes w_net_Lost N x := by kernel_rfl
noncomputable def W_net_Comes (N : Nat) (x : (List (Int × (List UInt8) × Bool)) × Int) : Option ((List (Int × (List UInt8) × Bool)) × Bool × Int × (List UInt8) × Bool) :=
  obind (W_net_Lost N (Prod.fst x, Prod.snd x)) fun (b : List (Int × List UInt8 × Bool) × Bool) =>
    cnd (!Prod.snd b) (some (Prod.fst b, false, (0 : Int), [], false))
      (cnd (decide ((0 : Int) ≤ Prod.snd x) && decide (Prod.snd x < (↑(List.length (Prod.fst x)) : Int)))
        (some
          (Prod.fst b, true, Prod.fst (List.getD (Prod.fst x) (Int.toNat (Prod.snd x)) ((0 : Int), [], false)),
            Prod.fst (Prod.snd (List.getD (Prod.fst x) (Int.toNat (Prod.snd x)) ((0 : Int), [], false))),
            Prod.snd (Prod.snd (List.getD (Prod.fst x) (Int.toNat (Prod.snd x)) ((0 : Int), [], false)))))
        none)
theorem F_net_Comes_eq (N : Nat) (x : (List (Int × (List UInt8) × Bool)) × Int) : F_net_Comes (W_net_Lost N) N x = W_net_Comes N x := (FV_net_Comes_eq (W_net_Lost N) N x).trans (by kernel_rfl)
noncomputable def conw_net_Comes (w : (List (Int × (List UInt8) × Bool)) × Int → Option ((List (Int × (List UInt8) × Bool)) × Bool × Int × (List UInt8) × Bool)) : Con := ⟨34, as_net_Comes, bs_net_Comes, (List (Int × (List UInt8) × Bool)) × Bool × Int × (List UInt8) × Bool, w, out_net_Comes⟩
noncomputable def con_net_Comes (N : Nat) : Con := conw_net_Comes (W_net_Comes N)
theorem R_net_Comes_eq (x : (List (Int × (List UInt8) × Bool)) × Int) (y : (List (Int × (List UInt8) × Bool)) × Bool × Int × (List UInt8) × Bool) : retOf2 P0 Try.f34 (kpL []) (lbOf as_net_Comes bs_net_Comes x) (patS ⟨24, [], [], []⟩ pout_net_Comes y) = some (out_net_Comes y) := by kernel_rfl
theorem con_net_Comes_ok (N : Nat) : Con.ok P0 (con_net_Comes N) := ⟨⟨Try.f34, Try.func34, by kernel_rfl, by kernel_rfl⟩, fun (x : (List (Int × (List UInt8) × Bool)) × Int) (r : (List (Int × (List UInt8) × Bool)) × Bool × Int × (List UInt8) × Bool) (hr : W_net_Comes N x = some r) =>
  spec2_evT (Γ := G_net_Comes (W_net_Lost N) N) (Λ := L0) (pout := pout_net_Comes) (kp := kpL []) mixed (orcOf_ok _ (by simp only [List.mem_cons, List.not_mem_nil, or_false, forall_eq_or_imp, forall_eq]; exact con_net_Lost_ok N)) Try.func34 (c := bodyOf Try.f34) (by kernel_rfl) (by kernel_rfl) (of_decide_eq_true (by kernel_rfl)) ((F_net_Comes_eq N x).trans hr) (R_net_Comes_eq x r)⟩
def as_ref13_Gone : List AS := [.val (.list (.agg (.pair (.int .i64) (.pair .str .bool)))), .val (.int .i64)]
def bs_ref13_Gone : List BS := []
def pout_ref13_Gone : Pat := ⟨[(4, .val (.list (.agg (.pair (.int .i64) (.pair .str .bool))))), (5, .ptr 600005 0), (6, .val .bool)], [(600005, .box 45 (.val (.pair (.int .i64) (.pair .str .bool))))]⟩
noncomputable def G_ref13_Gone  (N : Nat) : OrcT := orcOf []
noncomputable def F_ref13_Gone  (N : Nat) (x : (List (Int × (List UInt8) × Bool)) × Int) : Option ((List (Int × (List UInt8) × Bool)) × Bool × Int × (List UInt8) × Bool) :=
  (evT (G_ref13_Gone  N) L0 P0 []
    [] N 400 (bodyOf Try.f35) ⟨31, slots 0 (argsOf as_ref13_Gone bs_ref13_Gone x), tabU (lbOf as_ref13_Gone bs_ref13_Gone x) [], []⟩).elim (kRet 31 pout_ref13_Gone (kpL []) (lbOf as_ref13_Gone bs_ref13_Gone x))
def out_ref13_Gone (y : (List (Int × (List UInt8) × Bool)) × Bool × Int × (List UInt8) × Bool) : V × List OK × List OK := (.tup [valW (.list (.agg (.pair (.int .i64) (.pair .str .bool)))) y.1, valW (.agg (.pair (.int .i64) (.pair .str .bool))) y.2.2, valW .bool y.2.1], [], [])
noncomputable def V_ref13_Gone  (N : Nat) (x : (List (Int × (List UInt8) × Bool)) × Int) : Option ((List (Int × (List UInt8) × Bool)) × Bool × Int × (List UInt8) × Bool) :=
  cnd (decide (Prod.snd x < (0 : Int))) (some (Prod.fst x, false, (0 : Int), [], false))
    (cnd (decide ((↑(List.length (Prod.fst x)) : Int) ≤ Prod.snd x)) (some (Prod.fst x, false, (0 : Int), [], false))
      (cnd (decide ((0 : Int) ≤ Prod.snd x) && decide (Prod.snd x ≤ (↑(List.length (Prod.fst x)) : Int)))
        (cnd
          (decide
            (List.length (List.drop (0 : Nat) (List.take (Int.toNat (Prod.snd x)) (Prod.fst x))) * (32 : Nat) ≤
              (140737488355328 : Nat)))
          (cnd
            (decide ((0 : Int) ≤ wr IntKind.i64 (Prod.snd x + (1 : Int))) &&
              decide (wr IntKind.i64 (Prod.snd x + (1 : Int)) ≤ (↑(List.length (Prod.fst x)) : Int)))
            (cnd
              (decide
                ((List.length (List.drop (0 : Nat) (List.take (Int.toNat (Prod.snd x)) (Prod.fst x))) +
                      List.length
                        (List.drop (Int.toNat (wr IntKind.i64 (Prod.snd x + (1 : Int))))
                          (List.take (List.length (Prod.fst x)) (Prod.fst x)))) *
                    (32 : Nat) ≤
                  (140737488355328 : Nat)))
              (cnd (decide ((0 : Int) ≤ Prod.snd x) && decide (Prod.snd x < (↑(List.length (Prod.fst x)) : Int)))
                (some
                  (List.drop (0 : Nat) (List.take (Int.toNat (Prod.snd x)) (Prod.fst x)) ++
                      List.drop (Int.toNat (wr IntKind.i64 (Prod.snd x + (1 : Int))))
                        (List.take (List.length (Prod.fst x)) (Prod.fst x)),
                    true, Prod.fst (List.getD (Prod.fst x) (Int.toNat (Prod.snd x)) ((0 : Int), [], false)),
                    Prod.fst (Prod.snd (List.getD (Prod.fst x) (Int.toNat (Prod.snd x)) ((0 : Int), [], false))),
                    Prod.snd (Prod.snd (List.getD (Prod.fst x) (Int.toNat (Prod.snd x)) ((0 : Int), [], false)))))
                none)
              none)
            none)
          none)
        none))
theorem FV_ref13_Gone_eq  (N : Nat) (x : (List (Int × (List UInt8) × Bool)) × Int) : F_ref13_Gone  N x = V_ref13_Gone  N x := by kernel_rfl
noncomputable def W_ref13_Gone (N : Nat) (x : (List (Int × (List UInt8) × Bool)) × Int) : Option ((List (Int × (List UInt8) × Bool)) × Bool × Int × (List UInt8) × Bool) :=
  cnd (decide (Prod.snd x < (0 : Int))) (some (Prod.fst x, false, (0 : Int), [], false))
    (cnd (decide ((↑(List.length (Prod.fst x)) : Int) ≤ Prod.snd x)) (some (Prod.fst x, false, (0 : Int), [], false))
      (cnd (decide ((0 : Int) ≤ Prod.snd x) && decide (Prod.snd x ≤ (↑(List.length (Prod.fst x)) : Int)))
        (cnd
          (decide
            (List.length (List.drop (0 : Nat) (List.take (Int.toNat (Prod.snd x)) (Prod.fst x))) * (32 : Nat) ≤
              (140737488355328 : Nat)))
          (cnd
            (decide ((0 : Int) ≤ wr IntKind.i64 (Prod.snd x + (1 : Int))) &&
              decide (wr IntKind.i64 (Prod.snd x + (1 : Int)) ≤ (↑(List.length (Prod.fst x)) : Int)))
            (cnd
              (decide
                ((List.length (List.drop (0 : Nat) (List.take (Int.toNat (Prod.snd x)) (Prod.fst x))) +
                      List.length
                        (List.drop (Int.toNat (wr IntKind.i64 (Prod.snd x + (1 : Int))))
                          (List.take (List.length (Prod.fst x)) (Prod.fst x)))) *
                    (32 : Nat) ≤
                  (140737488355328 : Nat)))
              (cnd (decide ((0 : Int) ≤ Prod.snd x) && decide (Prod.snd x < (↑(List.length (Prod.fst x)) : Int)))
                (some
                  (List.drop (0 : Nat) (List.take (Int.toNat (Prod.snd x)) (Prod.fst x)) ++
                      List.drop (Int.toNat (wr IntKind.i64 (Prod.snd x + (1 : Int))))
                        (List.take (List.length (Prod.fst x)) (Prod.fst x)),
                    true, Prod.fst (List.getD (Prod.fst x) (Int.toNat (Prod.snd x)) ((0 : Int), [], false)),
                    Prod.fst (Prod.snd (List.getD (Prod.fst x) (Int.toNat (Prod.snd x)) ((0 : Int), [], false))),
                    Prod.snd (Prod.snd (List.getD (Prod.fst x) (Int.toNat (Prod.snd x)) ((0 : Int), [], false)))))
                none)
              none)
            none)
          none)
        none))
theorem F_ref13_Gone_eq (N : Nat) (x : (List (Int × (List UInt8) × Bool)) × Int) : F_ref13_Gone  N x = W_ref13_Gone N x := (FV_ref13_Gone_eq  N x).trans (by kernel_rfl)
noncomputable def conw_ref13_Gone (w : (List (Int × (List UInt8) × Bool)) × Int → Option ((List (Int × (List UInt8) × Bool)) × Bool × Int × (List UInt8) × Bool)) : Con := ⟨35, as_ref13_Gone, bs_ref13_Gone, (List (Int × (List UInt8) × Bool)) × Bool × Int × (List UInt8) × Bool, w, out_ref13_Gone⟩
noncomputable def con_ref13_Gone (N : Nat) : Con := conw_ref13_Gone (W_ref13_Gone N)
theorem R_ref13_Gone_eq (x : (List (Int × (List UInt8) × Bool)) × Int) (y : (List (Int × (List UInt8) × Bool)) × Bool × Int × (List UInt8) × Bool) : retOf2 P0 Try.f35 (kpL []) (lbOf as_ref13_Gone bs_ref13_Gone x) (patS ⟨31, [], [], []⟩ pout_ref13_Gone y) = some (out_ref13_Gone y) := by kernel_rfl
theorem con_ref13_Gone_ok (N : Nat) : Con.ok P0 (con_ref13_Gone N) := ⟨⟨Try.f35, Try.func35, by kernel_rfl, by kernel_rfl⟩, fun (x : (List (Int × (List UInt8) × Bool)) × Int) (r : (List (Int × (List UInt8) × Bool)) × Bool × Int × (List UInt8) × Bool) (hr : W_ref13_Gone N x = some r) =>
  spec2_evT (Γ := G_ref13_Gone N) (Λ := L0) (pout := pout_ref13_Gone) (kp := kpL []) mixed (orcOf_ok [] (by simp)) Try.func35 (c := bodyOf Try.f35) (by kernel_rfl) (by kernel_rfl) (of_decide_eq_true (by kernel_rfl)) ((F_ref13_Gone_eq N x).trans hr) (R_ref13_Gone_eq x r)⟩
def as_net_Twice : List AS := [.val (.list (.agg (.pair (.int .i64) (.pair .str .bool)))), .val (.int .i64)]
def bs_net_Twice : List BS := []
def pout_net_Twice : Pat := ⟨[(4, .val (.list (.agg (.pair (.int .i64) (.pair .str .bool))))), (5, .val .bool)], []⟩
noncomputable def G_net_Twice (w_net_there : (List (Int × (List UInt8) × Bool)) × Int → Option (Bool)) (w_slices_Clone_api_Gram : List (Int × (List UInt8) × Bool) → Option (List (Int × (List UInt8) × Bool))) (w_net_Send : (List (Int × (List UInt8) × Bool)) × Int × (List UInt8) × Bool → Option (List (Int × (List UInt8) × Bool))) (N : Nat) : OrcT := orcOf [conw_net_there w_net_there, conw_slices_Clone_api_Gram w_slices_Clone_api_Gram, conw_net_Send w_net_Send]
noncomputable def F_net_Twice (w_net_there : (List (Int × (List UInt8) × Bool)) × Int → Option (Bool)) (w_slices_Clone_api_Gram : List (Int × (List UInt8) × Bool) → Option (List (Int × (List UInt8) × Bool))) (w_net_Send : (List (Int × (List UInt8) × Bool)) × Int × (List UInt8) × Bool → Option (List (Int × (List UInt8) × Bool))) (N : Nat) (x : (List (Int × (List UInt8) × Bool)) × Int) : Option ((List (Int × (List UInt8) × Bool)) × Bool) :=
  (evT (G_net_Twice w_net_there w_slices_Clone_api_Gram w_net_Send N) L0 P0 []
    [] N 400 (bodyOf Try.f37) ⟨23, slots 0 (argsOf as_net_Twice bs_net_Twice x), tabU (lbOf as_net_Twice bs_net_Twice x) [], []⟩).elim (kRet 23 pout_net_Twice (kpL []) (lbOf as_net_Twice bs_net_Twice x))
def out_net_Twice (y : (List (Int × (List UInt8) × Bool)) × Bool) : V × List OK × List OK := (.tup [valW (.list (.agg (.pair (.int .i64) (.pair .str .bool)))) y.1, valW .bool y.2], [], [])
noncomputable def V_net_Twice (w_net_there : (List (Int × (List UInt8) × Bool)) × Int → Option (Bool)) (w_slices_Clone_api_Gram : List (Int × (List UInt8) × Bool) → Option (List (Int × (List UInt8) × Bool))) (w_net_Send : (List (Int × (List UInt8) × Bool)) × Int × (List UInt8) × Bool → Option (List (Int × (List UInt8) × Bool))) (N : Nat) (x : (List (Int × (List UInt8) × Bool)) × Int) : Option ((List (Int × (List UInt8) × Bool)) × Bool) :=
  obind (w_net_there (Prod.fst x, Prod.snd x)) fun (b : Bool) =>
    cnd (!b) (obind (w_slices_Clone_api_Gram (Prod.fst x)) fun (b : List (Int × List UInt8 × Bool)) => some (b, false))
      (cnd (decide ((60 : Int) ≤ (↑(List.length (Prod.fst x)) : Int)))
        (obind (w_slices_Clone_api_Gram (Prod.fst x)) fun (b : List (Int × List UInt8 × Bool)) => some (b, false))
        (cnd (decide ((0 : Int) ≤ Prod.snd x) && decide (Prod.snd x < (↑(List.length (Prod.fst x)) : Int)))
          (obind
            (w_net_Send
              (Prod.fst x, Prod.fst (List.getD (Prod.fst x) (Int.toNat (Prod.snd x)) ((0 : Int), [], false)),
                Prod.fst (Prod.snd (List.getD (Prod.fst x) (Int.toNat (Prod.snd x)) ((0 : Int), [], false))),
                Prod.snd (Prod.snd (List.getD (Prod.fst x) (Int.toNat (Prod.snd x)) ((0 : Int), [], false)))))
            fun (b : List (Int × List UInt8 × Bool)) => some (b, true))
          none))
theorem FV_net_Twice_eq (w_net_there : (List (Int × (List UInt8) × Bool)) × Int → Option (Bool)) (w_slices_Clone_api_Gram : List (Int × (List UInt8) × Bool) → Option (List (Int × (List UInt8) × Bool))) (w_net_Send : (List (Int × (List UInt8) × Bool)) × Int × (List UInt8) × Bool → Option (List (Int × (List UInt8) × Bool))) (N : Nat) (x : (List (Int × (List UInt8) × Bool)) × Int) : F_net_Twice w_net_there w_slices_Clone_api_Gram w_net_Send N x = V_net_Twice w_net_there w_slices_Clone_api_Gram w_net_Send N x := by kernel_rfl
noncomputable def W_net_Twice (N : Nat) (x : (List (Int × (List UInt8) × Bool)) × Int) : Option ((List (Int × (List UInt8) × Bool)) × Bool) :=
  obind (W_net_there N (Prod.fst x, Prod.snd x)) fun (b : Bool) =>
    cnd (!b) (obind (W_slices_Clone_api_Gram N (Prod.fst x)) fun (b : List (Int × List UInt8 × Bool)) => some (b, false))
      (cnd (decide ((60 : Int) ≤ (↑(List.length (Prod.fst x)) : Int)))
        (obind (W_slices_Clone_api_Gram N (Prod.fst x)) fun (b : List (Int × List UInt8 × Bool)) => some (b, false))
        (cnd (decide ((0 : Int) ≤ Prod.snd x) && decide (Prod.snd x < (↑(List.length (Prod.fst x)) : Int)))
          (obind
            (W_net_Send N
              (Prod.fst x, Prod.fst (List.getD (Prod.fst x) (Int.toNat (Prod.snd x)) ((0 : Int), [], false)),
                Prod.fst (Prod.snd (List.getD (Prod.fst x) (Int.toNat (Prod.snd x)) ((0 : Int), [], false))),
                Prod.snd (Prod.snd (List.getD (Prod.fst x) (Int.toNat (Prod.snd x)) ((0 : Int), [], false)))))
            fun (b : List (Int × List UInt8 × Bool)) => some (b, true))
          none))
theorem F_net_Twice_eq (N : Nat) (x : (List (Int × (List UInt8) × Bool)) × Int) : F_net_Twice (W_net_there N) (W_slices_Clone_api_Gram N) (W_net_Send N) N x = W_net_Twice N x := (FV_net_Twice_eq (W_net_there N) (W_slices_Clone_api_Gram N) (W_net_Send N) N x).trans (by kernel_rfl)
noncomputable def conw_net_Twice (w : (List (Int × (List UInt8) × Bool)) × Int → Option ((List (Int × (List UInt8) × Bool)) × Bool)) : Con := ⟨37, as_net_Twice, bs_net_Twice, (List (Int × (List UInt8) × Bool)) × Bool, w, out_net_Twice⟩
noncomputable def con_net_Twice (N : Nat) : Con := conw_net_Twice (W_net_Twice N)
theorem R_net_Twice_eq (x : (List (Int × (List UInt8) × Bool)) × Int) (y : (List (Int × (List UInt8) × Bool)) × Bool) : retOf2 P0 Try.f37 (kpL []) (lbOf as_net_Twice bs_net_Twice x) (patS ⟨23, [], [], []⟩ pout_net_Twice y) = some (out_net_Twice y) := by kernel_rfl
theorem con_net_Twice_ok (N : Nat) : Con.ok P0 (con_net_Twice N) := ⟨⟨Try.f37, Try.func37, by kernel_rfl, by kernel_rfl⟩, fun (x : (List (Int × (List UInt8) × Bool)) × Int) (r : (List (Int × (List UInt8) × Bool)) × Bool) (hr : W_net_Twice N x = some r) =>
  spec2_evT (Γ := G_net_Twice (W_net_there N) (W_slices_Clone_api_Gram N) (W_net_Send N) N) (Λ := L0) (pout := pout_net_Twice) (kp := kpL []) mixed (orcOf_ok _ (by simp only [List.mem_cons, List.not_mem_nil, or_false, forall_eq_or_imp, forall_eq]; exact ⟨con_net_there_ok N, con_slices_Clone_api_Gram_ok N, con_net_Send_ok N⟩)) Try.func37 (c := bodyOf Try.f37) (by kernel_rfl) (by kernel_rfl) (of_decide_eq_true (by kernel_rfl)) ((F_net_Twice_eq N x).trans hr) (R_net_Twice_eq x r)⟩
def as_ref13_Twice : List AS := [.val (.list (.agg (.pair (.int .i64) (.pair .str .bool)))), .val (.int .i64)]
def bs_ref13_Twice : List BS := []
def pout_ref13_Twice : Pat := ⟨[(4, .val (.list (.agg (.pair (.int .i64) (.pair .str .bool))))), (5, .val .bool)], []⟩
noncomputable def G_ref13_Twice (w_ref13_Send : (List (Int × (List UInt8) × Bool)) × Int × (List UInt8) × Bool → Option (List (Int × (List UInt8) × Bool))) (N : Nat) : OrcT := orcOf [conw_ref13_Send w_ref13_Send]
noncomputable def F_ref13_Twice (w_ref13_Send : (List (Int × (List UInt8) × Bool)) × Int × (List UInt8) × Bool → Option (List (Int × (List UInt8) × Bool))) (N : Nat) (x : (List (Int × (List UInt8) × Bool)) × Int) : Option ((List (Int × (List UInt8) × Bool)) × Bool) :=
  (evT (G_ref13_Twice w_ref13_Send N) L0 P0 []
    [(1000001, .reg [(8, [], ⟨[(13, .val .bool)], []⟩)])] N 400 (bodyOf Try.f38) ⟨26, slots 0 (argsOf as_ref13_Twice bs_ref13_Twice x), tabU (lbOf as_ref13_Twice bs_ref13_Twice x) [], []⟩).elim (kRet 26 pout_ref13_Twice (kpL []) (lbOf as_ref13_Twice bs_ref13_Twice x))
def out_ref13_Twice (y : (List (Int × (List UInt8) × Bool)) × Bool) : V × List OK × List OK := (.tup [valW (.list (.agg (.pair (.int .i64) (.pair .str .bool)))) y.1, valW .bool y.2], [], [])
noncomputable def V_ref13_Twice (w_ref13_Send : (List (Int × (List UInt8) × Bool)) × Int × (List UInt8) × Bool → Option (List (Int × (List UInt8) × Bool))) (N : Nat) (x : (List (Int × (List UInt8) × Bool)) × Int) : Option ((List (Int × (List UInt8) × Bool)) × Bool) :=
  obind (cnd (decide (Prod.snd x < (0 : Int))) (some true) (some (decide ((↑(List.length (Prod.fst x)) : Int) ≤ Prod.snd x))))
    fun (b : Bool) =>
    cnd b (some (Prod.fst x, false))
      (cnd (decide ((60 : Int) ≤ (↑(List.length (Prod.fst x)) : Int))) (some (Prod.fst x, false))
        (cnd (decide ((0 : Int) ≤ Prod.snd x) && decide (Prod.snd x < (↑(List.length (Prod.fst x)) : Int)))
          (obind
            (w_ref13_Send
              (Prod.fst x, Prod.fst (List.getD (Prod.fst x) (Int.toNat (Prod.snd x)) ((0 : Int), [], false)),
                Prod.fst (Prod.snd (List.getD (Prod.fst x) (Int.toNat (Prod.snd x)) ((0 : Int), [], false))),
                Prod.snd (Prod.snd (List.getD (Prod.fst x) (Int.toNat (Prod.snd x)) ((0 : Int), [], false)))))
            fun (b : List (Int × List UInt8 × Bool)) => some (b, true))
          none))
theorem FV_ref13_Twice_eq (w_ref13_Send : (List (Int × (List UInt8) × Bool)) × Int × (List UInt8) × Bool → Option (List (Int × (List UInt8) × Bool))) (N : Nat) (x : (List (Int × (List UInt8) × Bool)) × Int) : F_ref13_Twice w_ref13_Send N x = V_ref13_Twice w_ref13_Send N x := by kernel_rfl
noncomputable def W_ref13_Twice (N : Nat) (x : (List (Int × (List UInt8) × Bool)) × Int) : Option ((List (Int × (List UInt8) × Bool)) × Bool) :=
  obind (cnd (decide (Prod.snd x < (0 : Int))) (some true) (some (decide ((↑(List.length (Prod.fst x)) : Int) ≤ Prod.snd x))))
    fun (b : Bool) =>
    cnd b (some (Prod.fst x, false))
      (cnd (decide ((60 : Int) ≤ (↑(List.length (Prod.fst x)) : Int))) (some (Prod.fst x, false))
        (cnd (decide ((0 : Int) ≤ Prod.snd x) && decide (Prod.snd x < (↑(List.length (Prod.fst x)) : Int)))
          (obind
            (W_ref13_Send N
              (Prod.fst x, Prod.fst (List.getD (Prod.fst x) (Int.toNat (Prod.snd x)) ((0 : Int), [], false)),
                Prod.fst (Prod.snd (List.getD (Prod.fst x) (Int.toNat (Prod.snd x)) ((0 : Int), [], false))),
                Prod.snd (Prod.snd (List.getD (Prod.fst x) (Int.toNat (Prod.snd x)) ((0 : Int), [], false)))))
            fun (b : List (Int × List UInt8 × Bool)) => some (b, true))
          none))
theorem F_ref13_Twice_eq (N : Nat) (x : (List (Int × (List UInt8) × Bool)) × Int) : F_ref13_Twice (W_ref13_Send N) N x = W_ref13_Twice N x := (FV_ref13_Twice_eq (W_ref13_Send N) N x).trans (by kernel_rfl)
noncomputable def conw_ref13_Twice (w : (List (Int × (List UInt8) × Bool)) × Int → Option ((List (Int × (List UInt8) × Bool)) × Bool)) : Con := ⟨38, as_ref13_Twice, bs_ref13_Twice, (List (Int × (List UInt8) × Bool)) × Bool, w, out_ref13_Twice⟩
noncomputable def con_ref13_Twice (N : Nat) : Con := conw_ref13_Twice (W_ref13_Twice N)
theorem R_ref13_Twice_eq (x : (List (Int × (List UInt8) × Bool)) × Int) (y : (List (Int × (List UInt8) × Bool)) × Bool) : retOf2 P0 Try.f38 (kpL []) (lbOf as_ref13_Twice bs_ref13_Twice x) (patS ⟨26, [], [], []⟩ pout_ref13_Twice y) = some (out_ref13_Twice y) := by kernel_rfl
theorem con_ref13_Twice_ok (N : Nat) : Con.ok P0 (con_ref13_Twice N) := ⟨⟨Try.f38, Try.func38, by kernel_rfl, by kernel_rfl⟩, fun (x : (List (Int × (List UInt8) × Bool)) × Int) (r : (List (Int × (List UInt8) × Bool)) × Bool) (hr : W_ref13_Twice N x = some r) =>
  spec2_evT (Γ := G_ref13_Twice (W_ref13_Send N) N) (Λ := L0) (pout := pout_ref13_Twice) (kp := kpL []) mixed (orcOf_ok _ (by simp only [List.mem_cons, List.not_mem_nil, or_false, forall_eq_or_imp, forall_eq]; exact con_ref13_Send_ok N)) Try.func38 (c := bodyOf Try.f38) (by kernel_rfl) (by kernel_rfl) (of_decide_eq_true (by kernel_rfl)) ((F_ref13_Twice_eq N x).trans hr) (R_ref13_Twice_eq x r)⟩
def as_net_turn : List AS := [.val .str, .val (.int .i64), .val (.int .i32)]
def bs_net_turn : List BS := []
def pout_net_turn : Pat := ⟨[(6, .val .str)], []⟩
noncomputable def G_net_turn  (N : Nat) : OrcT := orcOf []
noncomputable def F_net_turn  (N : Nat) (x : (List UInt8) × Int × Int) : Option (List UInt8) :=
  (evT (G_net_turn  N) L0 P0 []
    [] N 400 (bodyOf Try.f74) ⟨23, slots 0 (argsOf as_net_turn bs_net_turn x), tabU (lbOf as_net_turn bs_net_turn x) [], []⟩).elim (kRet 23 pout_net_turn (kpL []) (lbOf as_net_turn bs_net_turn x))
def out_net_turn (y : List UInt8) : V × List OK × List OK := (valW .str y, [], [])
noncomputable def V_net_turn  (N : Nat) (x : (List UInt8) × Int × Int) : Option (List UInt8) :=
  cnd
    (decide ((0 : Int) ≤ Prod.fst (Prod.snd x)) &&
      decide (Prod.fst (Prod.snd x) < (↑(List.length (List.map (fun (b : UInt8) => (↑(UInt8.toNat b) : Int)) (Prod.fst x))) : Int)))
    (cnd
      (decide ((0 : Int) ≤ Prod.fst (Prod.snd x)) &&
        decide (Prod.fst (Prod.snd x) < (↑(List.length (List.map (fun (b : UInt8) => (↑(UInt8.toNat b) : Int)) (Prod.fst x))) : Int)))
      (cnd
        (List.all
          (putL (List.map (fun (b : UInt8) => (↑(UInt8.toNat b) : Int)) (Prod.fst x))
            [wr IntKind.u8
                (wr IntKind.i32
                  (↑(BitVec.toNat
                      (BitVec.ofInt (32 : Nat)
                          (wr IntKind.i32
                            (List.getD (List.map (fun (b : UInt8) => (↑(UInt8.toNat b) : Int)) (Prod.fst x))
                              (Int.toNat (Prod.fst (Prod.snd x))) (0 : Int))) ^^^
                        BitVec.ofInt (32 : Nat) (Prod.snd (Prod.snd x)))) : Int))]
            (Int.toNat (Prod.fst (Prod.snd x))))
          fun (n : Int) => decide ((0 : Int) ≤ n) && decide (n < (256 : Int)))
        (some
          (List.map (fun (n : Int) => UInt8.ofNat (Int.toNat n))
            (putL (List.map (fun (b : UInt8) => (↑(UInt8.toNat b) : Int)) (Prod.fst x))
              [wr IntKind.u8
                  (wr IntKind.i32
                    (↑(BitVec.toNat
                        (BitVec.ofInt (32 : Nat)
                            (wr IntKind.i32
                              (List.getD (List.map (fun (b : UInt8) => (↑(UInt8.toNat b) : Int)) (Prod.fst x))
                                (Int.toNat (Prod.fst (Prod.snd x))) (0 : Int))) ^^^
                          BitVec.ofInt (32 : Nat) (Prod.snd (Prod.snd x)))) : Int))]
              (Int.toNat (Prod.fst (Prod.snd x))))))
        none)
      none)
    none
theorem FV_net_turn_eq  (N : Nat) (x : (List UInt8) × Int × Int) : F_net_turn  N x = V_net_turn  N x := by kernel_rfl
noncomputable def W_net_turn (N : Nat) (x : (List UInt8) × Int × Int) : Option (List UInt8) :=
  cnd
    (decide ((0 : Int) ≤ Prod.fst (Prod.snd x)) &&
      decide (Prod.fst (Prod.snd x) < (↑(List.length (List.map (fun (b : UInt8) => (↑(UInt8.toNat b) : Int)) (Prod.fst x))) : Int)))
    (cnd
      (decide ((0 : Int) ≤ Prod.fst (Prod.snd x)) &&
        decide (Prod.fst (Prod.snd x) < (↑(List.length (List.map (fun (b : UInt8) => (↑(UInt8.toNat b) : Int)) (Prod.fst x))) : Int)))
      (cnd
        (List.all
          (putL (List.map (fun (b : UInt8) => (↑(UInt8.toNat b) : Int)) (Prod.fst x))
            [wr IntKind.u8
                (wr IntKind.i32
                  (↑(BitVec.toNat
                      (BitVec.ofInt (32 : Nat)
                          (wr IntKind.i32
                            (List.getD (List.map (fun (b : UInt8) => (↑(UInt8.toNat b) : Int)) (Prod.fst x))
                              (Int.toNat (Prod.fst (Prod.snd x))) (0 : Int))) ^^^
                        BitVec.ofInt (32 : Nat) (Prod.snd (Prod.snd x)))) : Int))]
            (Int.toNat (Prod.fst (Prod.snd x))))
          fun (n : Int) => decide ((0 : Int) ≤ n) && decide (n < (256 : Int)))
        (some
          (List.map (fun (n : Int) => UInt8.ofNat (Int.toNat n))
            (putL (List.map (fun (b : UInt8) => (↑(UInt8.toNat b) : Int)) (Prod.fst x))
              [wr IntKind.u8
                  (wr IntKind.i32
                    (↑(BitVec.toNat
                        (BitVec.ofInt (32 : Nat)
                            (wr IntKind.i32
                              (List.getD (List.map (fun (b : UInt8) => (↑(UInt8.toNat b) : Int)) (Prod.fst x))
                                (Int.toNat (Prod.fst (Prod.snd x))) (0 : Int))) ^^^
                          BitVec.ofInt (32 : Nat) (Prod.snd (Prod.snd x)))) : Int))]
              (Int.toNat (Prod.fst (Prod.snd x))))))
        none)
      none)
    none
theorem F_net_turn_eq (N : Nat) (x : (List UInt8) × Int × Int) : F_net_turn  N x = W_net_turn N x := (FV_net_turn_eq  N x).trans (by kernel_rfl)
noncomputable def conw_net_turn (w : (List UInt8) × Int × Int → Option (List UInt8)) : Con := ⟨74, as_net_turn, bs_net_turn, List UInt8, w, out_net_turn⟩
noncomputable def con_net_turn (N : Nat) : Con := conw_net_turn (W_net_turn N)
theorem R_net_turn_eq (x : (List UInt8) × Int × Int) (y : List UInt8) : retOf2 P0 Try.f74 (kpL []) (lbOf as_net_turn bs_net_turn x) (patS ⟨23, [], [], []⟩ pout_net_turn y) = some (out_net_turn y) := by kernel_rfl
theorem con_net_turn_ok (N : Nat) : Con.ok P0 (con_net_turn N) := ⟨⟨Try.f74, Try.func74, by kernel_rfl, by kernel_rfl⟩, fun (x : (List UInt8) × Int × Int) (r : List UInt8) (hr : W_net_turn N x = some r) =>
  spec2_evT (Γ := G_net_turn N) (Λ := L0) (pout := pout_net_turn) (kp := kpL []) mixed (orcOf_ok [] (by simp)) Try.func74 (c := bodyOf Try.f74) (by kernel_rfl) (by kernel_rfl) (of_decide_eq_true (by kernel_rfl)) ((F_net_turn_eq N x).trans hr) (R_net_turn_eq x r)⟩
def as_net_Turned : List AS := [.val (.list (.agg (.pair (.int .i64) (.pair .str .bool)))), .val (.int .i64), .val (.int .i64)]
def bs_net_Turned : List BS := []
def pout_net_Turned : Pat := ⟨[(6, .val (.list (.agg (.pair (.int .i64) (.pair .str .bool))))), (7, .val .bool)], []⟩
noncomputable def G_net_Turned (w_slices_Clone_api_Gram : List (Int × (List UInt8) × Bool) → Option (List (Int × (List UInt8) × Bool))) (w_net_there : (List (Int × (List UInt8) × Bool)) × Int → Option (Bool)) (w_net_turn : (List UInt8) × Int × Int → Option (List UInt8)) (N : Nat) : OrcT := orcOf [conw_slices_Clone_api_Gram w_slices_Clone_api_Gram, conw_net_there w_net_there, conw_net_turn w_net_turn]
noncomputable def F_net_Turned (w_slices_Clone_api_Gram : List (Int × (List UInt8) × Bool) → Option (List (Int × (List UInt8) × Bool))) (w_net_there : (List (Int × (List UInt8) × Bool)) × Int → Option (Bool)) (w_net_turn : (List UInt8) × Int × Int → Option (List UInt8)) (N : Nat) (x : (List (Int × (List UInt8) × Bool)) × Int × Int) : Option ((List (Int × (List UInt8) × Bool)) × Bool) :=
  (evT (G_net_Turned w_slices_Clone_api_Gram w_net_there w_net_turn N) L0 P0 []
    [(1000002, .reg [(11, [], ⟨[(8, .acc 700010), (21, .val .bool)], [(700010, .nrow 45 (.agg (.pair (.int .i64) (.pair .str .bool))) false true)]⟩), (9, [], ⟨[(8, .acc 700010), (30, .val .bool)], [(700010, .nrow 45 (.agg (.pair (.int .i64) (.pair .str .bool))) false true)]⟩), (4, [], ⟨[(8, .acc 700010), (34, .val .bool)], [(700010, .nrow 45 (.agg (.pair (.int .i64) (.pair .str .bool))) false true)]⟩)])] N 400 (bodyOf Try.f39) ⟨68, slots 0 (argsOf as_net_Turned bs_net_Turned x), tabU (lbOf as_net_Turned bs_net_Turned x) [], []⟩).elim (kRet 68 pout_net_Turned (kpL []) (lbOf as_net_Turned bs_net_Turned x))
def out_net_Turned (y : (List (Int × (List UInt8) × Bool)) × Bool) : V × List OK × List OK := (.tup [valW (.list (.agg (.pair (.int .i64) (.pair .str .bool)))) y.1, valW .bool y.2], [], [])
noncomputable def V_net_Turned (w_slices_Clone_api_Gram : List (Int × (List UInt8) × Bool) → Option (List (Int × (List UInt8) × Bool))) (w_net_there : (List (Int × (List UInt8) × Bool)) × Int → Option (Bool)) (w_net_turn : (List UInt8) × Int × Int → Option (List UInt8)) (N : Nat) (x : (List (Int × (List UInt8) × Bool)) × Int × Int) : Option ((List (Int × (List UInt8) × Bool)) × Bool) :=
  obind (w_slices_Clone_api_Gram (Prod.fst x)) fun (b : List (Int × List UInt8 × Bool)) =>
    obind
      (obind (w_net_there (Prod.fst x, Prod.fst (Prod.snd x))) fun (b_1 : Bool) =>
        cnd (!b_1) (some (true, b))
          (cnd
            (decide ((0 : Int) ≤ Prod.fst (Prod.snd x)) && decide (Prod.fst (Prod.snd x) < (↑(List.length (Prod.fst x)) : Int)))
            (some
              (Prod.snd (Prod.snd (List.getD (Prod.fst x) (Int.toNat (Prod.fst (Prod.snd x))) ((0 : Int), [], false))),
                b))
            none))
      fun (b : Bool × List (Int × List UInt8 × Bool)) =>
      obind
        (cnd (Prod.fst b) (some (true, Prod.snd b))
          (cnd
            (decide ((0 : Int) ≤ Prod.fst (Prod.snd x)) && decide (Prod.fst (Prod.snd x) < (↑(List.length (Prod.fst x)) : Int)))
            (some
              (decide
                  ((↑(List.length
                        (Prod.fst
                          (Prod.snd
                            (List.getD (Prod.fst x) (Int.toNat (Prod.fst (Prod.snd x))) ((0 : Int), [], false))))) : Int) =
                    (0 : Int)),
                Prod.snd b))
            none))
        fun (b : Bool × List (Int × List UInt8 × Bool)) =>
        obind (cnd (Prod.fst b) (some (true, Prod.snd b)) (some (decide (Prod.snd (Prod.snd x) < (0 : Int)), Prod.snd b)))
          fun (b : Bool × List (Int × List UInt8 × Bool)) =>
          cnd (Prod.fst b) (some (Prod.snd b, false))
            (cnd (decide (Int.tmod (Prod.snd (Prod.snd x)) (256 : Int) = (0 : Int))) (some (Prod.snd b, false))
              (cnd
                (decide ((0 : Int) ≤ Prod.fst (Prod.snd x)) &&
                  decide (Prod.fst (Prod.snd x) < (↑(List.length (Prod.fst x)) : Int)))
                (cnd
                  (decide ((0 : Int) ≤ Prod.fst (Prod.snd x)) &&
                    decide (Prod.fst (Prod.snd x) < (↑(List.length (Prod.fst x)) : Int)))
                  (cnd
                    (!decide
                        ((↑(List.length
                              (Prod.fst
                                (Prod.snd
                                  (List.getD (Prod.fst x) (Int.toNat (Prod.fst (Prod.snd x))) ((0 : Int), [], false))))) : Int) =
                          (0 : Int)))
                    (obind
                      (w_net_turn
                        (Prod.fst
                            (Prod.snd
                              (List.getD (Prod.fst x) (Int.toNat (Prod.fst (Prod.snd x))) ((0 : Int), [], false))),
                          Int.tmod (wr IntKind.i64 (Int.tdiv (Prod.snd (Prod.snd x)) (256 : Int)))
                            (↑(List.length
                                (Prod.fst
                                  (Prod.snd
                                    (List.getD (Prod.fst x) (Int.toNat (Prod.fst (Prod.snd x)))
                                      ((0 : Int), [], false))))) : Int),
                          wr IntKind.i32 (Int.tmod (Prod.snd (Prod.snd x)) (256 : Int))))
                      fun (b_1 : List UInt8) =>
                      cnd
                        (decide ((0 : Int) ≤ Prod.fst (Prod.snd x)) &&
                          decide (Prod.fst (Prod.snd x) < (↑(List.length (Prod.snd b)) : Int)))
                        (cnd
                          (decide ((0 : Int) ≤ Prod.fst (Prod.snd x)) &&
                            decide
                              (Prod.fst (Prod.snd x) <
                                (↑(List.length
                                    (putL (Prod.snd b)
                                      [(Prod.fst
                                            (List.getD (Prod.snd b) (Int.toNat (Prod.fst (Prod.snd x)))
                                              ((0 : Int), [], false)),
                                          b_1,
                                          Prod.snd
                                            (Prod.snd
                                              (List.getD (Prod.snd b) (Int.toNat (Prod.fst (Prod.snd x)))
                                                ((0 : Int), [], false))))]
                                      (Int.toNat (Prod.fst (Prod.snd x))))) : Int)))
                          (some
                            (putL
                                (putL (Prod.snd b)
                                  [(Prod.fst
                                        (List.getD (Prod.snd b) (Int.toNat (Prod.fst (Prod.snd x)))
                                          ((0 : Int), [], false)),
                                      b_1,
                                      Prod.snd
                                        (Prod.snd
                                          (List.getD (Prod.snd b) (Int.toNat (Prod.fst (Prod.snd x)))
                                            ((0 : Int), [], false))))]
                                  (Int.toNat (Prod.fst (Prod.snd x))))
                                [(Prod.fst
                                      (List.getD
                                        (putL (Prod.snd b)
                                          [(Prod.fst
                                                (List.getD (Prod.snd b) (Int.toNat (Prod.fst (Prod.snd x)))
                                                  ((0 : Int), [], false)),
                                              b_1,
                                              Prod.snd
                                                (Prod.snd
                                                  (List.getD (Prod.snd b) (Int.toNat (Prod.fst (Prod.snd x)))
                                                    ((0 : Int), [], false))))]
                                          (Int.toNat (Prod.fst (Prod.snd x))))
                                        (Int.toNat (Prod.fst (Prod.snd x))) ((0 : Int), [], false)),
                                    Prod.fst
                                      (Prod.snd
                                        (List.getD
                                          (putL (Prod.snd b)
                                            [(Prod.fst
                                                  (List.getD (Prod.snd b) (Int.toNat (Prod.fst (Prod.snd x)))
                                                    ((0 : Int), [], false)),
                                                b_1,
                                                Prod.snd
                                                  (Prod.snd
                                                    (List.getD (Prod.snd b) (Int.toNat (Prod.fst (Prod.snd x)))
                                                      ((0 : Int), [], false))))]
                                            (Int.toNat (Prod.fst (Prod.snd x))))
                                          (Int.toNat (Prod.fst (Prod.snd x))) ((0 : Int), [], false))),
                                    true)]
                                (Int.toNat (Prod.fst (Prod.snd x))),
                              true))
                          none)
                        none)
                    none)
                  none)
                none))
theorem FV_net_Turned_eq (w_slices_Clone_api_Gram : List (Int × (List UInt8) × Bool) → Option (List (Int × (List UInt8) × Bool))) (w_net_there : (List (Int × (List UInt8) × Bool)) × Int → Option (Bool)) (w_net_turn : (List UInt8) × Int × Int → Option (List UInt8)) (N : Nat) (x : (List (Int × (List UInt8) × Bool)) × Int × Int) : F_net_Turned w_slices_Clone_api_Gram w_net_there w_net_turn N x = V_net_Turned w_slices_Clone_api_Gram w_net_there w_net_turn N x := by kernel_rfl
noncomputable def W_net_Turned (N : Nat) (x : (List (Int × (List UInt8) × Bool)) × Int × Int) : Option ((List (Int × (List UInt8) × Bool)) × Bool) :=
  obind (W_slices_Clone_api_Gram N (Prod.fst x)) fun (b : List (Int × List UInt8 × Bool)) =>
    obind
      (obind (W_net_there N (Prod.fst x, Prod.fst (Prod.snd x))) fun (b_1 : Bool) =>
        cnd (!b_1) (some (true, b))
          (cnd
            (decide ((0 : Int) ≤ Prod.fst (Prod.snd x)) && decide (Prod.fst (Prod.snd x) < (↑(List.length (Prod.fst x)) : Int)))
            (some
              (Prod.snd (Prod.snd (List.getD (Prod.fst x) (Int.toNat (Prod.fst (Prod.snd x))) ((0 : Int), [], false))),
                b))
            none))
      fun (b : Bool × List (Int × List UInt8 × Bool)) =>
      obind
        (cnd (Prod.fst b) (some (true, Prod.snd b))
          (cnd
            (decide ((0 : Int) ≤ Prod.fst (Prod.snd x)) && decide (Prod.fst (Prod.snd x) < (↑(List.length (Prod.fst x)) : Int)))
            (some
              (decide
                  ((↑(List.length
                        (Prod.fst
                          (Prod.snd
                            (List.getD (Prod.fst x) (Int.toNat (Prod.fst (Prod.snd x))) ((0 : Int), [], false))))) : Int) =
                    (0 : Int)),
                Prod.snd b))
            none))
        fun (b : Bool × List (Int × List UInt8 × Bool)) =>
        obind (cnd (Prod.fst b) (some (true, Prod.snd b)) (some (decide (Prod.snd (Prod.snd x) < (0 : Int)), Prod.snd b)))
          fun (b : Bool × List (Int × List UInt8 × Bool)) =>
          cnd (Prod.fst b) (some (Prod.snd b, false))
            (cnd (decide (Int.tmod (Prod.snd (Prod.snd x)) (256 : Int) = (0 : Int))) (some (Prod.snd b, false))
              (cnd
                (decide ((0 : Int) ≤ Prod.fst (Prod.snd x)) &&
                  decide (Prod.fst (Prod.snd x) < (↑(List.length (Prod.fst x)) : Int)))
                (cnd
                  (decide ((0 : Int) ≤ Prod.fst (Prod.snd x)) &&
                    decide (Prod.fst (Prod.snd x) < (↑(List.length (Prod.fst x)) : Int)))
                  (cnd
                    (!decide
                        ((↑(List.length
                              (Prod.fst
                                (Prod.snd
                                  (List.getD (Prod.fst x) (Int.toNat (Prod.fst (Prod.snd x))) ((0 : Int), [], false))))) : Int) =
                          (0 : Int)))
                    (obind
                      (W_net_turn N
                        (Prod.fst
                            (Prod.snd
                              (List.getD (Prod.fst x) (Int.toNat (Prod.fst (Prod.snd x))) ((0 : Int), [], false))),
                          Int.tmod (wr IntKind.i64 (Int.tdiv (Prod.snd (Prod.snd x)) (256 : Int)))
                            (↑(List.length
                                (Prod.fst
                                  (Prod.snd
                                    (List.getD (Prod.fst x) (Int.toNat (Prod.fst (Prod.snd x)))
                                      ((0 : Int), [], false))))) : Int),
                          wr IntKind.i32 (Int.tmod (Prod.snd (Prod.snd x)) (256 : Int))))
                      fun (b_1 : List UInt8) =>
                      cnd
                        (decide ((0 : Int) ≤ Prod.fst (Prod.snd x)) &&
                          decide (Prod.fst (Prod.snd x) < (↑(List.length (Prod.snd b)) : Int)))
                        (cnd
                          (decide ((0 : Int) ≤ Prod.fst (Prod.snd x)) &&
                            decide
                              (Prod.fst (Prod.snd x) <
                                (↑(List.length
                                    (putL (Prod.snd b)
                                      [(Prod.fst
                                            (List.getD (Prod.snd b) (Int.toNat (Prod.fst (Prod.snd x)))
                                              ((0 : Int), [], false)),
                                          b_1,
                                          Prod.snd
                                            (Prod.snd
                                              (List.getD (Prod.snd b) (Int.toNat (Prod.fst (Prod.snd x)))
                                                ((0 : Int), [], false))))]
                                      (Int.toNat (Prod.fst (Prod.snd x))))) : Int)))
                          (some
                            (putL
                                (putL (Prod.snd b)
                                  [(Prod.fst
                                        (List.getD (Prod.snd b) (Int.toNat (Prod.fst (Prod.snd x)))
                                          ((0 : Int), [], false)),
                                      b_1,
                                      Prod.snd
                                        (Prod.snd
                                          (List.getD (Prod.snd b) (Int.toNat (Prod.fst (Prod.snd x)))
                                            ((0 : Int), [], false))))]
                                  (Int.toNat (Prod.fst (Prod.snd x))))
                                [(Prod.fst
                                      (List.getD
                                        (putL (Prod.snd b)
                                          [(Prod.fst
                                                (List.getD (Prod.snd b) (Int.toNat (Prod.fst (Prod.snd x)))
                                                  ((0 : Int), [], false)),
                                              b_1,
                                              Prod.snd
                                                (Prod.snd
                                                  (List.getD (Prod.snd b) (Int.toNat (Prod.fst (Prod.snd x)))
                                                    ((0 : Int), [], false))))]
                                          (Int.toNat (Prod.fst (Prod.snd x))))
                                        (Int.toNat (Prod.fst (Prod.snd x))) ((0 : Int), [], false)),
                                    Prod.fst
                                      (Prod.snd
                                        (List.getD
                                          (putL (Prod.snd b)
                                            [(Prod.fst
                                                  (List.getD (Prod.snd b) (Int.toNat (Prod.fst (Prod.snd x)))
                                                    ((0 : Int), [], false)),
                                                b_1,
                                                Prod.snd
                                                  (Prod.snd
                                                    (List.getD (Prod.snd b) (Int.toNat (Prod.fst (Prod.snd x)))
                                                      ((0 : Int), [], false))))]
                                            (Int.toNat (Prod.fst (Prod.snd x))))
                                          (Int.toNat (Prod.fst (Prod.snd x))) ((0 : Int), [], false))),
                                    true)]
                                (Int.toNat (Prod.fst (Prod.snd x))),
                              true))
                          none)
                        none)
                    none)
                  none)
                none))
theorem F_net_Turned_eq (N : Nat) (x : (List (Int × (List UInt8) × Bool)) × Int × Int) : F_net_Turned (W_slices_Clone_api_Gram N) (W_net_there N) (W_net_turn N) N x = W_net_Turned N x := (FV_net_Turned_eq (W_slices_Clone_api_Gram N) (W_net_there N) (W_net_turn N) N x).trans (by kernel_rfl)
noncomputable def conw_net_Turned (w : (List (Int × (List UInt8) × Bool)) × Int × Int → Option ((List (Int × (List UInt8) × Bool)) × Bool)) : Con := ⟨39, as_net_Turned, bs_net_Turned, (List (Int × (List UInt8) × Bool)) × Bool, w, out_net_Turned⟩
noncomputable def con_net_Turned (N : Nat) : Con := conw_net_Turned (W_net_Turned N)
theorem R_net_Turned_eq (x : (List (Int × (List UInt8) × Bool)) × Int × Int) (y : (List (Int × (List UInt8) × Bool)) × Bool) : retOf2 P0 Try.f39 (kpL []) (lbOf as_net_Turned bs_net_Turned x) (patS ⟨68, [], [], []⟩ pout_net_Turned y) = some (out_net_Turned y) := by kernel_rfl
theorem con_net_Turned_ok (N : Nat) : Con.ok P0 (con_net_Turned N) := ⟨⟨Try.f39, Try.func39, by kernel_rfl, by kernel_rfl⟩, fun (x : (List (Int × (List UInt8) × Bool)) × Int × Int) (r : (List (Int × (List UInt8) × Bool)) × Bool) (hr : W_net_Turned N x = some r) =>
  spec2_evT (Γ := G_net_Turned (W_slices_Clone_api_Gram N) (W_net_there N) (W_net_turn N) N) (Λ := L0) (pout := pout_net_Turned) (kp := kpL []) mixed (orcOf_ok _ (by simp only [List.mem_cons, List.not_mem_nil, or_false, forall_eq_or_imp, forall_eq]; exact ⟨con_slices_Clone_api_Gram_ok N, con_net_there_ok N, con_net_turn_ok N⟩)) Try.func39 (c := bodyOf Try.f39) (by kernel_rfl) (by kernel_rfl) (of_decide_eq_true (by kernel_rfl)) ((F_net_Turned_eq N x).trans hr) (R_net_Turned_eq x r)⟩
def as_ref13_Turned : List AS := [.val (.list (.agg (.pair (.int .i64) (.pair .str .bool)))), .val (.int .i64), .val (.int .i64)]
def bs_ref13_Turned : List BS := []
def pout_ref13_Turned : Pat := ⟨[(6, .val (.list (.agg (.pair (.int .i64) (.pair .str .bool))))), (7, .val .bool)], []⟩
noncomputable def G_ref13_Turned  (N : Nat) : OrcT := orcOf []
noncomputable def F_ref13_Turned  (N : Nat) (x : (List (Int × (List UInt8) × Bool)) × Int × Int) : Option ((List (Int × (List UInt8) × Bool)) × Bool) :=
  (evT (G_ref13_Turned  N) L0 P0 []
    [(1000001, .reg [(8, [], ⟨[(18, .val .bool)], []⟩), (7, [], ⟨[(25, .val .bool)], []⟩), (9, [], ⟨[(34, .val .bool)], []⟩), (4, [], ⟨[(38, .val .bool)], []⟩)])] N 400 (bodyOf Try.f40) ⟨81, slots 0 (argsOf as_ref13_Turned bs_ref13_Turned x), tabU (lbOf as_ref13_Turned bs_ref13_Turned x) [], []⟩).elim (kRet 81 pout_ref13_Turned (kpL []) (lbOf as_ref13_Turned bs_ref13_Turned x))
def out_ref13_Turned (y : (List (Int × (List UInt8) × Bool)) × Bool) : V × List OK × List OK := (.tup [valW (.list (.agg (.pair (.int .i64) (.pair .str .bool)))) y.1, valW .bool y.2], [], [])
noncomputable def V_ref13_Turned  (N : Nat) (x : (List (Int × (List UInt8) × Bool)) × Int × Int) : Option ((List (Int × (List UInt8) × Bool)) × Bool) :=
  obind (cnd (decide (Prod.fst (Prod.snd x) < (0 : Int))) (some true) (some (decide ((↑(List.length (Prod.fst x)) : Int) ≤ Prod.fst (Prod.snd x))))) fun
    (b : Bool) => obind (cnd b (some true) (cnd (decide ((0 : Int) ≤ Prod.fst (Prod.snd x)) && decide (Prod.fst (Prod.snd x) < (↑(List.length (Prod.fst
    x)) : Int))) (some (Prod.snd (Prod.snd (List.getD (Prod.fst x) (Int.toNat (Prod.fst (Prod.snd x))) ((0 : Int), [], false))))) none)) fun (b : Bool)
    => obind (cnd b (some true) (cnd (decide ((0 : Int) ≤ Prod.fst (Prod.snd x)) && decide (Prod.fst (Prod.snd x) < (↑(List.length (Prod.fst x)) :
    Int))) (some (decide ((↑(List.length (Prod.fst (Prod.snd (List.getD (Prod.fst x) (Int.toNat (Prod.fst (Prod.snd x))) ((0 : Int), [], false))))) :
    Int) = (0 : Int)))) none)) fun (b : Bool) => obind (cnd b (some true) (some (decide (Prod.snd (Prod.snd x) < (0 : Int))))) fun (b : Bool) => cnd b
    (some (Prod.fst x, false)) (cnd (decide (Int.tmod (Prod.snd (Prod.snd x)) (256 : Int) = (0 : Int))) (some (Prod.fst x, false)) (cnd (decide
    (List.length (Prod.fst x) * (32 : Nat) ≤ (140737488355328 : Nat))) (cnd (decide ((0 : Int) ≤ Prod.fst (Prod.snd x)) && decide (Prod.fst (Prod.snd x)
    < (↑(List.length (Prod.fst x)) : Int))) (cnd (!decide ((↑(List.length (List.map (fun (b : UInt8) => (↑(UInt8.toNat b) : Int)) (Prod.fst (Prod.snd
    (List.getD (Prod.fst x) (Int.toNat (Prod.fst (Prod.snd x))) ((0 : Int), [], false)))))) : Int) = (0 : Int))) (cnd (decide ((0 : Int) ≤ Int.tmod (wr
    IntKind.i64 (Int.tdiv (Prod.snd (Prod.snd x)) (256 : Int))) (↑(List.length (List.map (fun (b : UInt8) => (↑(UInt8.toNat b) : Int)) (Prod.fst
    (Prod.snd (List.getD (Prod.fst x) (Int.toNat (Prod.fst (Prod.snd x))) ((0 : Int), [], false)))))) : Int)) && decide (Int.tmod (wr IntKind.i64
    (Int.tdiv (Prod.snd (Prod.snd x)) (256 : Int))) (↑(List.length (List.map (fun (b : UInt8) => (↑(UInt8.toNat b) : Int)) (Prod.fst (Prod.snd
    (List.getD (Prod.fst x) (Int.toNat (Prod.fst (Prod.snd x))) ((0 : Int), [], false)))))) : Int) < (↑(List.length (List.map (fun (b : UInt8) =>
    (↑(UInt8.toNat b) : Int)) (Prod.fst (Prod.snd (List.getD (Prod.fst x) (Int.toNat (Prod.fst (Prod.snd x))) ((0 : Int), [], false)))))) : Int))) (cnd
    (decide ((0 : Int) ≤ Int.tmod (wr IntKind.i64 (Int.tdiv (Prod.snd (Prod.snd x)) (256 : Int))) (↑(List.length (List.map (fun (b : UInt8) =>
    (↑(UInt8.toNat b) : Int)) (Prod.fst (Prod.snd (List.getD (Prod.fst x) (Int.toNat (Prod.fst (Prod.snd x))) ((0 : Int), [], false)))))) : Int)) &&
    decide (Int.tmod (wr IntKind.i64 (Int.tdiv (Prod.snd (Prod.snd x)) (256 : Int))) (↑(List.length (List.map (fun (b : UInt8) => (↑(UInt8.toNat b) :
    Int)) (Prod.fst (Prod.snd (List.getD (Prod.fst x) (Int.toNat (Prod.fst (Prod.snd x))) ((0 : Int), [], false)))))) : Int) < (↑(List.length (List.map
    (fun (b : UInt8) => (↑(UInt8.toNat b) : Int)) (Prod.fst (Prod.snd (List.getD (Prod.fst x) (Int.toNat (Prod.fst (Prod.snd x))) ((0 : Int), [],
    false)))))) : Int))) (cnd (List.all (putL (List.map (fun (b : UInt8) => (↑(UInt8.toNat b) : Int)) (Prod.fst (Prod.snd (List.getD (Prod.fst x)
    (Int.toNat (Prod.fst (Prod.snd x))) ((0 : Int), [], false))))) [wr IntKind.u8 (↑(BitVec.toNat (BitVec.ofInt (8 : Nat) (List.getD (List.map (fun (b :
    UInt8) => (↑(UInt8.toNat b) : Int)) (Prod.fst (Prod.snd (List.getD (Prod.fst x) (Int.toNat (Prod.fst (Prod.snd x))) ((0 : Int), [], false)))))
    (Int.toNat (Int.tmod (wr IntKind.i64 (Int.tdiv (Prod.snd (Prod.snd x)) (256 : Int))) (↑(List.length (List.map (fun (b : UInt8) => (↑(UInt8.toNat b)
    : Int)) (Prod.fst (Prod.snd (List.getD (Prod.fst x) (Int.toNat (Prod.fst (Prod.snd x))) ((0 : Int), [], false)))))) : Int))) (0 : Int)) ^^^
    BitVec.ofInt (8 : Nat) (wr IntKind.u8 (Int.tmod (Prod.snd (Prod.snd x)) (256 : Int))))) : Int)] (Int.toNat (Int.tmod (wr IntKind.i64 (Int.tdiv
    (Prod.snd (Prod.snd x)) (256 : Int))) (↑(List.length (List.map (fun (b : UInt8) => (↑(UInt8.toNat b) : Int)) (Prod.fst (Prod.snd (List.getD
    (Prod.fst x) (Int.toNat (Prod.fst (Prod.snd x))) ((0 : Int), [], false)))))) : Int)))) fun (n : Int) => decide ((0 : Int) ≤ n) && decide (n < (256 :
    Int))) (cnd (decide ((0 : Int) ≤ Prod.fst (Prod.snd x)) && decide (Prod.fst (Prod.snd x) < (↑(List.length (Prod.fst x)) : Int))) (cnd (decide ((0 :
    Int) ≤ Prod.fst (Prod.snd x)) && decide (Prod.fst (Prod.snd x) < (↑(List.length (putL (Prod.fst x) [(Prod.fst (List.getD (Prod.fst x) (Int.toNat
    (Prod.fst (Prod.snd x))) ((0 : Int), [], false)), List.map (fun (n : Int) => UInt8.ofNat (Int.toNat n)) (putL (List.map (fun (b : UInt8) =>
    (↑(UInt8.toNat b) : Int)) (Prod.fst (Prod.snd (List.getD (Prod.fst x) (Int.toNat (Prod.fst (Prod.snd x))) ((0 : Int), [], false))))) [wr IntKind.u8
    (↑(BitVec.toNat (BitVec.ofInt (8 : Nat) (List.getD (List.map (fun (b : UInt8) => (↑(UInt8.toNat b) : Int)) (Prod.fst (Prod.snd (List.getD (Prod.fst
    x) (Int.toNat (Prod.fst (Prod.snd x))) ((0 : Int), [], false))))) (Int.toNat (Int.tmod (wr IntKind.i64 (Int.tdiv (Prod.snd (Prod.snd x)) (256 :
    Int))) (↑(List.length (List.map (fun (b : UInt8) => (↑(UInt8.toNat b) : Int)) (Prod.fst (Prod.snd (List.getD (Prod.fst x) (Int.toNat (Prod.fst
    (Prod.snd x))) ((0 : Int), [], false)))))) : Int))) (0 : Int)) ^^^ BitVec.ofInt (8 : Nat) (wr IntKind.u8 (Int.tmod (Prod.snd (Prod.snd x)) (256 :
    Int))))) : Int)] (Int.toNat (Int.tmod (wr IntKind.i64 (Int.tdiv (Prod.snd (Prod.snd x)) (256 : Int))) (↑(List.length (List.map (fun (b : UInt8) =>
    (↑(UInt8.toNat b) : Int)) (Prod.fst (Prod.snd (List.getD (Prod.fst x) (Int.toNat (Prod.fst (Prod.snd x))) ((0 : Int), [], false)))))) : Int)))),
    Prod.snd (Prod.snd (List.getD (Prod.fst x) (Int.toNat (Prod.fst (Prod.snd x))) ((0 : Int), [], false))))] (Int.toNat (Prod.fst (Prod.snd x))))) :
    Int))) (some (putL (putL (Prod.fst x) [(Prod.fst (List.getD (Prod.fst x) (Int.toNat (Prod.fst (Prod.snd x))) ((0 : Int), [], false)), List.map (fun
    (n : Int) => UInt8.ofNat (Int.toNat n)) (putL (List.map (fun (b : UInt8) => (↑(UInt8.toNat b) : Int)) (Prod.fst (Prod.snd (List.getD (Prod.fst x)
    (Int.toNat (Prod.fst (Prod.snd x))) ((0 : Int), [], false))))) [wr IntKind.u8 (↑(BitVec.toNat (BitVec.ofInt (8 : Nat) (List.getD (List.map (fun (b :
    UInt8) => (↑(UInt8.toNat b) : Int)) (Prod.fst (Prod.snd (List.getD (Prod.fst x) (Int.toNat (Prod.fst (Prod.snd x))) ((0 : Int), [], false)))))
    (Int.toNat (Int.tmod (wr IntKind.i64 (Int.tdiv (Prod.snd (Prod.snd x)) (256 : Int))) (↑(List.length (List.map (fun (b : UInt8) => (↑(UInt8.toNat b)
    : Int)) (Prod.fst (Prod.snd (List.getD (Prod.fst x) (Int.toNat (Prod.fst (Prod.snd x))) ((0 : Int), [], false)))))) : Int))) (0 : Int)) ^^^
    BitVec.ofInt (8 : Nat) (wr IntKind.u8 (Int.tmod (Prod.snd (Prod.snd x)) (256 : Int))))) : Int)] (Int.toNat (Int.tmod (wr IntKind.i64 (Int.tdiv
    (Prod.snd (Prod.snd x)) (256 : Int))) (↑(List.length (List.map (fun (b : UInt8) => (↑(UInt8.toNat b) : Int)) (Prod.fst (Prod.snd (List.getD
    (Prod.fst x) (Int.toNat (Prod.fst (Prod.snd x))) ((0 : Int), [], false)))))) : Int)))), Prod.snd (Prod.snd (List.getD (Prod.fst x) (Int.toNat
    (Prod.fst (Prod.snd x))) ((0 : Int), [], false))))] (Int.toNat (Prod.fst (Prod.snd x)))) [(Prod.fst (List.getD (putL (Prod.fst x) [(Prod.fst
    (List.getD (Prod.fst x) (Int.toNat (Prod.fst (Prod.snd x))) ((0 : Int), [], false)), List.map (fun (n : Int) => UInt8.ofNat (Int.toNat n)) (putL
    (List.map (fun (b : UInt8) => (↑(UInt8.toNat b) : Int)) (Prod.fst (Prod.snd (List.getD (Prod.fst x) (Int.toNat (Prod.fst (Prod.snd x))) ((0 : Int),
    [], false))))) [wr IntKind.u8 (↑(BitVec.toNat (BitVec.ofInt (8 : Nat) (List.getD (List.map (fun (b : UInt8) => (↑(UInt8.toNat b) : Int)) (Prod.fst
    (Prod.snd (List.getD (Prod.fst x) (Int.toNat (Prod.fst (Prod.snd x))) ((0 : Int), [], false))))) (Int.toNat (Int.tmod (wr IntKind.i64 (Int.tdiv
    (Prod.snd (Prod.snd x)) (256 : Int))) (↑(List.length (List.map (fun (b : UInt8) => (↑(UInt8.toNat b) : Int)) (Prod.fst (Prod.snd (List.getD
    (Prod.fst x) (Int.toNat (Prod.fst (Prod.snd x))) ((0 : Int), [], false)))))) : Int))) (0 : Int)) ^^^ BitVec.ofInt (8 : Nat) (wr IntKind.u8 (Int.tmod
    (Prod.snd (Prod.snd x)) (256 : Int))))) : Int)] (Int.toNat (Int.tmod (wr IntKind.i64 (Int.tdiv (Prod.snd (Prod.snd x)) (256 : Int))) (↑(List.length
    (List.map (fun (b : UInt8) => (↑(UInt8.toNat b) : Int)) (Prod.fst (Prod.snd (List.getD (Prod.fst x) (Int.toNat (Prod.fst (Prod.snd x))) ((0 : Int),
    [], false)))))) : Int)))), Prod.snd (Prod.snd (List.getD (Prod.fst x) (Int.toNat (Prod.fst (Prod.snd x))) ((0 : Int), [], false))))] (Int.toNat
    (Prod.fst (Prod.snd x)))) (Int.toNat (Prod.fst (Prod.snd x))) ((0 : Int), [], false)), Prod.fst (Prod.snd (List.getD (putL (Prod.fst x) [(Prod.fst
    (List.getD (Prod.fst x) (Int.toNat (Prod.fst (Prod.snd x))) ((0 : Int), [], false)), List.map (fun (n : Int) => UInt8.ofNat (Int.toNat n)) (putL
    (List.map (fun (b : UInt8) => (↑(UInt8.toNat b) : Int)) (Prod.fst (Prod.snd (List.getD (Prod.fst x) (Int.toNat (Prod.fst (Prod.snd x))) ((0 : Int),
    [], false))))) [wr IntKind.u8 (↑(BitVec.toNat (BitVec.ofInt (8 : Nat) (List.getD (List.map (fun (b : UInt8) => (↑(UInt8.toNat b) : Int)) (Prod.fst
    (Prod.snd (List.getD (Prod.fst x) (Int.toNat (Prod.fst (Prod.snd x))) ((0 : Int), [], false))))) (Int.toNat (Int.tmod (wr IntKind.i64 (Int.tdiv
    (Prod.snd (Prod.snd x)) (256 : Int))) (↑(List.length (List.map (fun (b : UInt8) => (↑(UInt8.toNat b) : Int)) (Prod.fst (Prod.snd (List.getD
    (Prod.fst x) (Int.toNat (Prod.fst (Prod.snd x))) ((0 : Int), [], false)))))) : Int))) (0 : Int)) ^^^ BitVec.ofInt (8 : Nat) (wr IntKind.u8 (Int.tmod
    (Prod.snd (Prod.snd x)) (256 : Int))))) : Int)] (Int.toNat (Int.tmod (wr IntKind.i64 (Int.tdiv (Prod.snd (Prod.snd x)) (256 : Int))) (↑(List.length
    (List.map (fun (b : UInt8) => (↑(UInt8.toNat b) : Int)) (Prod.fst (Prod.snd (List.getD (Prod.fst x) (Int.toNat (Prod.fst (Prod.snd x))) ((0 : Int),
    [], false)))))) : Int)))), Prod.snd (Prod.snd (List.getD (Prod.fst x) (Int.toNat (Prod.fst (Prod.snd x))) ((0 : Int), [], false))))] (Int.toNat
    (Prod.fst (Prod.snd x)))) (Int.toNat (Prod.fst (Prod.snd x))) ((0 : Int), [], false))), true)] (Int.toNat (Prod.fst (Prod.snd x))), true)) none)
    none) none) none) none) none) none) none))
theorem FV_ref13_Turned_eq  (N : Nat) (x : (List (Int × (List UInt8) × Bool)) × Int × Int) : F_ref13_Turned  N x = V_ref13_Turned  N x := by kernel_rfl
noncomputable def W_ref13_Turned (N : Nat) (x : (List (Int × (List UInt8) × Bool)) × Int × Int) : Option ((List (Int × (List UInt8) × Bool)) × Bool) :=
  obind (cnd (decide (Prod.fst (Prod.snd x) < (0 : Int))) (some true) (some (decide ((↑(List.length (Prod.fst x)) : Int) ≤ Prod.fst (Prod.snd x))))) fun
    (b : Bool) => obind (cnd b (some true) (cnd (decide ((0 : Int) ≤ Prod.fst (Prod.snd x)) && decide (Prod.fst (Prod.snd x) < (↑(List.length (Prod.fst
    x)) : Int))) (some (Prod.snd (Prod.snd (List.getD (Prod.fst x) (Int.toNat (Prod.fst (Prod.snd x))) ((0 : Int), [], false))))) none)) fun (b : Bool)
    => obind (cnd b (some true) (cnd (decide ((0 : Int) ≤ Prod.fst (Prod.snd x)) && decide (Prod.fst (Prod.snd x) < (↑(List.length (Prod.fst x)) :
    Int))) (some (decide ((↑(List.length (Prod.fst (Prod.snd (List.getD (Prod.fst x) (Int.toNat (Prod.fst (Prod.snd x))) ((0 : Int), [], false))))) :
    Int) = (0 : Int)))) none)) fun (b : Bool) => obind (cnd b (some true) (some (decide (Prod.snd (Prod.snd x) < (0 : Int))))) fun (b : Bool) => cnd b
    (some (Prod.fst x, false)) (cnd (decide (Int.tmod (Prod.snd (Prod.snd x)) (256 : Int) = (0 : Int))) (some (Prod.fst x, false)) (cnd (decide
    (List.length (Prod.fst x) * (32 : Nat) ≤ (140737488355328 : Nat))) (cnd (decide ((0 : Int) ≤ Prod.fst (Prod.snd x)) && decide (Prod.fst (Prod.snd x)
    < (↑(List.length (Prod.fst x)) : Int))) (cnd (!decide ((↑(List.length (List.map (fun (b : UInt8) => (↑(UInt8.toNat b) : Int)) (Prod.fst (Prod.snd
    (List.getD (Prod.fst x) (Int.toNat (Prod.fst (Prod.snd x))) ((0 : Int), [], false)))))) : Int) = (0 : Int))) (cnd (decide ((0 : Int) ≤ Int.tmod (wr
    IntKind.i64 (Int.tdiv (Prod.snd (Prod.snd x)) (256 : Int))) (↑(List.length (List.map (fun (b : UInt8) => (↑(UInt8.toNat b) : Int)) (Prod.fst
    (Prod.snd (List.getD (Prod.fst x) (Int.toNat (Prod.fst (Prod.snd x))) ((0 : Int), [], false)))))) : Int)) && decide (Int.tmod (wr IntKind.i64
    (Int.tdiv (Prod.snd (Prod.snd x)) (256 : Int))) (↑(List.length (List.map (fun (b : UInt8) => (↑(UInt8.toNat b) : Int)) (Prod.fst (Prod.snd
    (List.getD (Prod.fst x) (Int.toNat (Prod.fst (Prod.snd x))) ((0 : Int), [], false)))))) : Int) < (↑(List.length (List.map (fun (b : UInt8) =>
    (↑(UInt8.toNat b) : Int)) (Prod.fst (Prod.snd (List.getD (Prod.fst x) (Int.toNat (Prod.fst (Prod.snd x))) ((0 : Int), [], false)))))) : Int))) (cnd
    (decide ((0 : Int) ≤ Int.tmod (wr IntKind.i64 (Int.tdiv (Prod.snd (Prod.snd x)) (256 : Int))) (↑(List.length (List.map (fun (b : UInt8) =>
    (↑(UInt8.toNat b) : Int)) (Prod.fst (Prod.snd (List.getD (Prod.fst x) (Int.toNat (Prod.fst (Prod.snd x))) ((0 : Int), [], false)))))) : Int)) &&
    decide (Int.tmod (wr IntKind.i64 (Int.tdiv (Prod.snd (Prod.snd x)) (256 : Int))) (↑(List.length (List.map (fun (b : UInt8) => (↑(UInt8.toNat b) :
    Int)) (Prod.fst (Prod.snd (List.getD (Prod.fst x) (Int.toNat (Prod.fst (Prod.snd x))) ((0 : Int), [], false)))))) : Int) < (↑(List.length (List.map
    (fun (b : UInt8) => (↑(UInt8.toNat b) : Int)) (Prod.fst (Prod.snd (List.getD (Prod.fst x) (Int.toNat (Prod.fst (Prod.snd x))) ((0 : Int), [],
    false)))))) : Int))) (cnd (List.all (putL (List.map (fun (b : UInt8) => (↑(UInt8.toNat b) : Int)) (Prod.fst (Prod.snd (List.getD (Prod.fst x)
    (Int.toNat (Prod.fst (Prod.snd x))) ((0 : Int), [], false))))) [wr IntKind.u8 (↑(BitVec.toNat (BitVec.ofInt (8 : Nat) (List.getD (List.map (fun (b :
    UInt8) => (↑(UInt8.toNat b) : Int)) (Prod.fst (Prod.snd (List.getD (Prod.fst x) (Int.toNat (Prod.fst (Prod.snd x))) ((0 : Int), [], false)))))
    (Int.toNat (Int.tmod (wr IntKind.i64 (Int.tdiv (Prod.snd (Prod.snd x)) (256 : Int))) (↑(List.length (List.map (fun (b : UInt8) => (↑(UInt8.toNat b)
    : Int)) (Prod.fst (Prod.snd (List.getD (Prod.fst x) (Int.toNat (Prod.fst (Prod.snd x))) ((0 : Int), [], false)))))) : Int))) (0 : Int)) ^^^
    BitVec.ofInt (8 : Nat) (wr IntKind.u8 (Int.tmod (Prod.snd (Prod.snd x)) (256 : Int))))) : Int)] (Int.toNat (Int.tmod (wr IntKind.i64 (Int.tdiv
    (Prod.snd (Prod.snd x)) (256 : Int))) (↑(List.length (List.map (fun (b : UInt8) => (↑(UInt8.toNat b) : Int)) (Prod.fst (Prod.snd (List.getD
    (Prod.fst x) (Int.toNat (Prod.fst (Prod.snd x))) ((0 : Int), [], false)))))) : Int)))) fun (n : Int) => decide ((0 : Int) ≤ n) && decide (n < (256 :
    Int))) (cnd (decide ((0 : Int) ≤ Prod.fst (Prod.snd x)) && decide (Prod.fst (Prod.snd x) < (↑(List.length (Prod.fst x)) : Int))) (cnd (decide ((0 :
    Int) ≤ Prod.fst (Prod.snd x)) && decide (Prod.fst (Prod.snd x) < (↑(List.length (putL (Prod.fst x) [(Prod.fst (List.getD (Prod.fst x) (Int.toNat
    (Prod.fst (Prod.snd x))) ((0 : Int), [], false)), List.map (fun (n : Int) => UInt8.ofNat (Int.toNat n)) (putL (List.map (fun (b : UInt8) =>
    (↑(UInt8.toNat b) : Int)) (Prod.fst (Prod.snd (List.getD (Prod.fst x) (Int.toNat (Prod.fst (Prod.snd x))) ((0 : Int), [], false))))) [wr IntKind.u8
    (↑(BitVec.toNat (BitVec.ofInt (8 : Nat) (List.getD (List.map (fun (b : UInt8) => (↑(UInt8.toNat b) : Int)) (Prod.fst (Prod.snd (List.getD (Prod.fst
    x) (Int.toNat (Prod.fst (Prod.snd x))) ((0 : Int), [], false))))) (Int.toNat (Int.tmod (wr IntKind.i64 (Int.tdiv (Prod.snd (Prod.snd x)) (256 :
    Int))) (↑(List.length (List.map (fun (b : UInt8) => (↑(UInt8.toNat b) : Int)) (Prod.fst (Prod.snd (List.getD (Prod.fst x) (Int.toNat (Prod.fst
    (Prod.snd x))) ((0 : Int), [], false)))))) : Int))) (0 : Int)) ^^^ BitVec.ofInt (8 : Nat) (wr IntKind.u8 (Int.tmod (Prod.snd (Prod.snd x)) (256 :
    Int))))) : Int)] (Int.toNat (Int.tmod (wr IntKind.i64 (Int.tdiv (Prod.snd (Prod.snd x)) (256 : Int))) (↑(List.length (List.map (fun (b : UInt8) =>
    (↑(UInt8.toNat b) : Int)) (Prod.fst (Prod.snd (List.getD (Prod.fst x) (Int.toNat (Prod.fst (Prod.snd x))) ((0 : Int), [], false)))))) : Int)))),
    Prod.snd (Prod.snd (List.getD (Prod.fst x) (Int.toNat (Prod.fst (Prod.snd x))) ((0 : Int), [], false))))] (Int.toNat (Prod.fst (Prod.snd x))))) :
    Int))) (some (putL (putL (Prod.fst x) [(Prod.fst (List.getD (Prod.fst x) (Int.toNat (Prod.fst (Prod.snd x))) ((0 : Int), [], false)), List.map (fun
    (n : Int) => UInt8.ofNat (Int.toNat n)) (putL (List.map (fun (b : UInt8) => (↑(UInt8.toNat b) : Int)) (Prod.fst (Prod.snd (List.getD (Prod.fst x)
    (Int.toNat (Prod.fst (Prod.snd x))) ((0 : Int), [], false))))) [wr IntKind.u8 (↑(BitVec.toNat (BitVec.ofInt (8 : Nat) (List.getD (List.map (fun (b :
    UInt8) => (↑(UInt8.toNat b) : Int)) (Prod.fst (Prod.snd (List.getD (Prod.fst x) (Int.toNat (Prod.fst (Prod.snd x))) ((0 : Int), [], false)))))
    (Int.toNat (Int.tmod (wr IntKind.i64 (Int.tdiv (Prod.snd (Prod.snd x)) (256 : Int))) (↑(List.length (List.map (fun (b : UInt8) => (↑(UInt8.toNat b)
    : Int)) (Prod.fst (Prod.snd (List.getD (Prod.fst x) (Int.toNat (Prod.fst (Prod.snd x))) ((0 : Int), [], false)))))) : Int))) (0 : Int)) ^^^
    BitVec.ofInt (8 : Nat) (wr IntKind.u8 (Int.tmod (Prod.snd (Prod.snd x)) (256 : Int))))) : Int)] (Int.toNat (Int.tmod (wr IntKind.i64 (Int.tdiv
    (Prod.snd (Prod.snd x)) (256 : Int))) (↑(List.length (List.map (fun (b : UInt8) => (↑(UInt8.toNat b) : Int)) (Prod.fst (Prod.snd (List.getD
    (Prod.fst x) (Int.toNat (Prod.fst (Prod.snd x))) ((0 : Int), [], false)))))) : Int)))), Prod.snd (Prod.snd (List.getD (Prod.fst x) (Int.toNat
    (Prod.fst (Prod.snd x))) ((0 : Int), [], false))))] (Int.toNat (Prod.fst (Prod.snd x)))) [(Prod.fst (List.getD (putL (Prod.fst x) [(Prod.fst
    (List.getD (Prod.fst x) (Int.toNat (Prod.fst (Prod.snd x))) ((0 : Int), [], false)), List.map (fun (n : Int) => UInt8.ofNat (Int.toNat n)) (putL
    (List.map (fun (b : UInt8) => (↑(UInt8.toNat b) : Int)) (Prod.fst (Prod.snd (List.getD (Prod.fst x) (Int.toNat (Prod.fst (Prod.snd x))) ((0 : Int),
    [], false))))) [wr IntKind.u8 (↑(BitVec.toNat (BitVec.ofInt (8 : Nat) (List.getD (List.map (fun (b : UInt8) => (↑(UInt8.toNat b) : Int)) (Prod.fst
    (Prod.snd (List.getD (Prod.fst x) (Int.toNat (Prod.fst (Prod.snd x))) ((0 : Int), [], false))))) (Int.toNat (Int.tmod (wr IntKind.i64 (Int.tdiv
    (Prod.snd (Prod.snd x)) (256 : Int))) (↑(List.length (List.map (fun (b : UInt8) => (↑(UInt8.toNat b) : Int)) (Prod.fst (Prod.snd (List.getD
    (Prod.fst x) (Int.toNat (Prod.fst (Prod.snd x))) ((0 : Int), [], false)))))) : Int))) (0 : Int)) ^^^ BitVec.ofInt (8 : Nat) (wr IntKind.u8 (Int.tmod
    (Prod.snd (Prod.snd x)) (256 : Int))))) : Int)] (Int.toNat (Int.tmod (wr IntKind.i64 (Int.tdiv (Prod.snd (Prod.snd x)) (256 : Int))) (↑(List.length
    (List.map (fun (b : UInt8) => (↑(UInt8.toNat b) : Int)) (Prod.fst (Prod.snd (List.getD (Prod.fst x) (Int.toNat (Prod.fst (Prod.snd x))) ((0 : Int),
    [], false)))))) : Int)))), Prod.snd (Prod.snd (List.getD (Prod.fst x) (Int.toNat (Prod.fst (Prod.snd x))) ((0 : Int), [], false))))] (Int.toNat
    (Prod.fst (Prod.snd x)))) (Int.toNat (Prod.fst (Prod.snd x))) ((0 : Int), [], false)), Prod.fst (Prod.snd (List.getD (putL (Prod.fst x) [(Prod.fst
    (List.getD (Prod.fst x) (Int.toNat (Prod.fst (Prod.snd x))) ((0 : Int), [], false)), List.map (fun (n : Int) => UInt8.ofNat (Int.toNat n)) (putL
    (List.map (fun (b : UInt8) => (↑(UInt8.toNat b) : Int)) (Prod.fst (Prod.snd (List.getD (Prod.fst x) (Int.toNat (Prod.fst (Prod.snd x))) ((0 : Int),
    [], false))))) [wr IntKind.u8 (↑(BitVec.toNat (BitVec.ofInt (8 : Nat) (List.getD (List.map (fun (b : UInt8) => (↑(UInt8.toNat b) : Int)) (Prod.fst
    (Prod.snd (List.getD (Prod.fst x) (Int.toNat (Prod.fst (Prod.snd x))) ((0 : Int), [], false))))) (Int.toNat (Int.tmod (wr IntKind.i64 (Int.tdiv
    (Prod.snd (Prod.snd x)) (256 : Int))) (↑(List.length (List.map (fun (b : UInt8) => (↑(UInt8.toNat b) : Int)) (Prod.fst (Prod.snd (List.getD
    (Prod.fst x) (Int.toNat (Prod.fst (Prod.snd x))) ((0 : Int), [], false)))))) : Int))) (0 : Int)) ^^^ BitVec.ofInt (8 : Nat) (wr IntKind.u8 (Int.tmod
    (Prod.snd (Prod.snd x)) (256 : Int))))) : Int)] (Int.toNat (Int.tmod (wr IntKind.i64 (Int.tdiv (Prod.snd (Prod.snd x)) (256 : Int))) (↑(List.length
    (List.map (fun (b : UInt8) => (↑(UInt8.toNat b) : Int)) (Prod.fst (Prod.snd (List.getD (Prod.fst x) (Int.toNat (Prod.fst (Prod.snd x))) ((0 : Int),
    [], false)))))) : Int)))), Prod.snd (Prod.snd (List.getD (Prod.fst x) (Int.toNat (Prod.fst (Prod.snd x))) ((0 : Int), [], false))))] (Int.toNat
    (Prod.fst (Prod.snd x)))) (Int.toNat (Prod.fst (Prod.snd x))) ((0 : Int), [], false))), true)] (Int.toNat (Prod.fst (Prod.snd x))), true)) none)
    none) none) none) none) none) none) none))
theorem F_ref13_Turned_eq (N : Nat) (x : (List (Int × (List UInt8) × Bool)) × Int × Int) : F_ref13_Turned  N x = W_ref13_Turned N x := (FV_ref13_Turned_eq  N x).trans (by kernel_rfl)
noncomputable def conw_ref13_Turned (w : (List (Int × (List UInt8) × Bool)) × Int × Int → Option ((List (Int × (List UInt8) × Bool)) × Bool)) : Con := ⟨40, as_ref13_Turned, bs_ref13_Turned, (List (Int × (List UInt8) × Bool)) × Bool, w, out_ref13_Turned⟩
noncomputable def con_ref13_Turned (N : Nat) : Con := conw_ref13_Turned (W_ref13_Turned N)
theorem R_ref13_Turned_eq (x : (List (Int × (List UInt8) × Bool)) × Int × Int) (y : (List (Int × (List UInt8) × Bool)) × Bool) : retOf2 P0 Try.f40 (kpL []) (lbOf as_ref13_Turned bs_ref13_Turned x) (patS ⟨81, [], [], []⟩ pout_ref13_Turned y) = some (out_ref13_Turned y) := by kernel_rfl
theorem con_ref13_Turned_ok (N : Nat) : Con.ok P0 (con_ref13_Turned N) := ⟨⟨Try.f40, Try.func40, by kernel_rfl, by kernel_rfl⟩, fun (x : (List (Int × (List UInt8) × Bool)) × Int × Int) (r : (List (Int × (List UInt8) × Bool)) × Bool) (hr : W_ref13_Turned N x = some r) =>
  spec2_evT (Γ := G_ref13_Turned N) (Λ := L0) (pout := pout_ref13_Turned) (kp := kpL []) mixed (orcOf_ok [] (by simp)) Try.func40 (c := bodyOf Try.f40) (by kernel_rfl) (by kernel_rfl) (of_decide_eq_true (by kernel_rfl)) ((F_ref13_Turned_eq N x).trans hr) (R_ref13_Turned_eq x r)⟩
def as_ref13_SameGrams : List AS := [.val (.list (.agg (.pair (.int .i64) (.pair .str .bool)))), .val (.list (.agg (.pair (.int .i64) (.pair .str .bool))))]
def bs_ref13_SameGrams : List BS := []
def pout_ref13_SameGrams : Pat := ⟨[(4, .val .bool)], []⟩
noncomputable def G_ref13_SameGrams  (N : Nat) : OrcT := orcOf []
noncomputable def F_ref13_SameGrams  (N : Nat) (x : (List (Int × (List UInt8) × Bool)) × List (Int × (List UInt8) × Bool)) : Option (Bool) :=
  (evT (G_ref13_SameGrams  N) L0 P0 [(4, .loop [] ⟨[(5, .val (.int .i64))], []⟩ [(.exit 0, ⟨[], []⟩), (.ret, ⟨[(4, .val .bool)], []⟩)])]
    [] N 400 (bodyOf Try.f41) ⟨26, slots 0 (argsOf as_ref13_SameGrams bs_ref13_SameGrams x), tabU (lbOf as_ref13_SameGrams bs_ref13_SameGrams x) [], []⟩).elim (kRet 26 pout_ref13_SameGrams (kpL []) (lbOf as_ref13_SameGrams bs_ref13_SameGrams x))
def out_ref13_SameGrams (y : Bool) : V × List OK × List OK := (valW .bool y, [], [])
noncomputable def V_ref13_SameGrams  (N : Nat) (x : (List (Int × (List UInt8) × Bool)) × List (Int × (List UInt8) × Bool)) : Option (Bool) :=
  cnd (decide ((↑(List.length (Prod.fst x)) : Int) ≠ (↑(List.length (Prod.snd x)) : Int))) (some false)
    (obind
      (loopN N
        (fun (v : Int) =>
          cnd (decide (v < (↑(List.length (Prod.fst x)) : Int)))
            (cnd (decide ((0 : Int) ≤ v) && decide (v < (↑(List.length (Prod.fst x)) : Int)))
              (cnd (decide ((0 : Int) ≤ v) && decide (v < (↑(List.length (Prod.snd x)) : Int)))
                (cnd
                  (!(decide
                        (Prod.fst (List.getD (Prod.fst x) (Int.toNat v) ((0 : Int), [], false)) =
                          Prod.fst (List.getD (Prod.snd x) (Int.toNat v) ((0 : Int), [], false))) &&
                      (Prod.fst (Prod.snd (List.getD (Prod.fst x) (Int.toNat v) ((0 : Int), [], false))) ==
                          Prod.fst (Prod.snd (List.getD (Prod.snd x) (Int.toNat v) ((0 : Int), [], false))) &&
                        Prod.snd (Prod.snd (List.getD (Prod.fst x) (Int.toNat v) ((0 : Int), [], false))) ==
                          Prod.snd (Prod.snd (List.getD (Prod.snd x) (Int.toNat v) ((0 : Int), [], false))))))
                  (some (Sum.inr (Sum.inr false))) (some (Sum.inl (wr IntKind.i64 (v + (1 : Int))))))
                none)
              none)
            (some (Sum.inr (Sum.inl ()))))
        (Int.ofNat (0 : Nat)))
      fun (b : PUnit ⊕ Bool) => selim (fun (b : PUnit) => some true) (fun (c : Bool) => some c) b)
theorem FV_ref13_SameGrams_eq  (N : Nat) (x : (List (Int × (List UInt8) × Bool)) × List (Int × (List UInt8) × Bool)) : F_ref13_SameGrams  N x = V_ref13_SameGrams  N x := by kernel_rfl
noncomputable def W_ref13_SameGrams (N : Nat) (x : (List (Int × (List UInt8) × Bool)) × List (Int × (List UInt8) × Bool)) : Option (Bool) :=
  cnd (decide ((↑(List.length (Prod.fst x)) : Int) ≠ (↑(List.length (Prod.snd x)) : Int))) (some false)
    (obind
      (loopN N
        (fun (v : Int) =>
          cnd (decide (v < (↑(List.length (Prod.fst x)) : Int)))
            (cnd (decide ((0 : Int) ≤ v) && decide (v < (↑(List.length (Prod.fst x)) : Int)))
              (cnd (decide ((0 : Int) ≤ v) && decide (v < (↑(List.length (Prod.snd x)) : Int)))
                (cnd
                  (!(decide
                        (Prod.fst (List.getD (Prod.fst x) (Int.toNat v) ((0 : Int), [], false)) =
                          Prod.fst (List.getD (Prod.snd x) (Int.toNat v) ((0 : Int), [], false))) &&
                      (Prod.fst (Prod.snd (List.getD (Prod.fst x) (Int.toNat v) ((0 : Int), [], false))) ==
                          Prod.fst (Prod.snd (List.getD (Prod.snd x) (Int.toNat v) ((0 : Int), [], false))) &&
                        Prod.snd (Prod.snd (List.getD (Prod.fst x) (Int.toNat v) ((0 : Int), [], false))) ==
                          Prod.snd (Prod.snd (List.getD (Prod.snd x) (Int.toNat v) ((0 : Int), [], false))))))
                  (some (Sum.inr (Sum.inr false))) (some (Sum.inl (wr IntKind.i64 (v + (1 : Int))))))
                none)
              none)
            (some (Sum.inr (Sum.inl ()))))
        (Int.ofNat (0 : Nat)))
      fun (b : PUnit ⊕ Bool) => selim (fun (b : PUnit) => some true) (fun (c : Bool) => some c) b)
theorem F_ref13_SameGrams_eq (N : Nat) (x : (List (Int × (List UInt8) × Bool)) × List (Int × (List UInt8) × Bool)) : F_ref13_SameGrams  N x = W_ref13_SameGrams N x := (FV_ref13_SameGrams_eq  N x).trans (by kernel_rfl)
noncomputable def conw_ref13_SameGrams (w : (List (Int × (List UInt8) × Bool)) × List (Int × (List UInt8) × Bool) → Option (Bool)) : Con := ⟨41, as_ref13_SameGrams, bs_ref13_SameGrams, Bool, w, out_ref13_SameGrams⟩
noncomputable def con_ref13_SameGrams (N : Nat) : Con := conw_ref13_SameGrams (W_ref13_SameGrams N)
theorem R_ref13_SameGrams_eq (x : (List (Int × (List UInt8) × Bool)) × List (Int × (List UInt8) × Bool)) (y : Bool) : retOf2 P0 Try.f41 (kpL []) (lbOf as_ref13_SameGrams bs_ref13_SameGrams x) (patS ⟨26, [], [], []⟩ pout_ref13_SameGrams y) = some (out_ref13_SameGrams y) := by kernel_rfl
theorem con_ref13_SameGrams_ok (N : Nat) : Con.ok P0 (con_ref13_SameGrams N) := ⟨⟨Try.f41, Try.func41, by kernel_rfl, by kernel_rfl⟩, fun (x : (List (Int × (List UInt8) × Bool)) × List (Int × (List UInt8) × Bool)) (r : Bool) (hr : W_ref13_SameGrams N x = some r) =>
  spec2_evT (Γ := G_ref13_SameGrams N) (Λ := L0) (pout := pout_ref13_SameGrams) (kp := kpL []) mixed (orcOf_ok [] (by simp)) Try.func41 (c := bodyOf Try.f41) (by kernel_rfl) (by kernel_rfl) (of_decide_eq_true (by kernel_rfl)) ((F_ref13_SameGrams_eq N x).trans hr) (R_ref13_SameGrams_eq x r)⟩
def as_law13_NetAll : List AS := [.val (.list (.agg (.pair (.int .u8) (.pair (.int .u8) (.pair (.int .u8) (.int .u8)))))), .val (.int .i64), .val (.agg (.pair (.int .i64) (.pair .str .bool)))]
def bs_law13_NetAll : List BS := []
def pout_law13_NetAll : Pat := ⟨[(6, .val .bool)], []⟩
noncomputable def G_law13_NetAll (w_net_Send : (List (Int × (List UInt8) × Bool)) × Int × (List UInt8) × Bool → Option (List (Int × (List UInt8) × Bool))) (w_ref13_Send : (List (Int × (List UInt8) × Bool)) × Int × (List UInt8) × Bool → Option (List (Int × (List UInt8) × Bool))) (w_net_Comes : (List (Int × (List UInt8) × Bool)) × Int → Option ((List (Int × (List UInt8) × Bool)) × Bool × Int × (List UInt8) × Bool)) (w_ref13_Gone : (List (Int × (List UInt8) × Bool)) × Int → Option ((List (Int × (List UInt8) × Bool)) × Bool × Int × (List UInt8) × Bool)) (w_net_Lost : (List (Int × (List UInt8) × Bool)) × Int → Option ((List (Int × (List UInt8) × Bool)) × Bool)) (w_net_Twice : (List (Int × (List UInt8) × Bool)) × Int → Option ((List (Int × (List UInt8) × Bool)) × Bool)) (w_ref13_Twice : (List (Int × (List UInt8) × Bool)) × Int → Option ((List (Int × (List UInt8) × Bool)) × Bool)) (w_net_Turned : (List (Int × (List UInt8) × Bool)) × Int × Int → Option ((List (Int × (List UInt8) × Bool)) × Bool)) (w_ref13_Turned : (List (Int × (List UInt8) × Bool)) × Int × Int → Option ((List (Int × (List UInt8) × Bool)) × Bool)) (w_ref13_SameGrams : (List (Int × (List UInt8) × Bool)) × List (Int × (List UInt8) × Bool) → Option (Bool)) (N : Nat) : OrcT := orcOf [con_law13_begun N, conw_net_Send w_net_Send, conw_ref13_Send w_ref13_Send, conw_net_Comes w_net_Comes, conw_ref13_Gone w_ref13_Gone, conw_net_Lost w_net_Lost, conw_net_Twice w_net_Twice, conw_ref13_Twice w_ref13_Twice, conw_net_Turned w_net_Turned, conw_ref13_Turned w_ref13_Turned, conw_ref13_SameGrams w_ref13_SameGrams]
noncomputable def F_law13_NetAll (w_net_Send : (List (Int × (List UInt8) × Bool)) × Int × (List UInt8) × Bool → Option (List (Int × (List UInt8) × Bool))) (w_ref13_Send : (List (Int × (List UInt8) × Bool)) × Int × (List UInt8) × Bool → Option (List (Int × (List UInt8) × Bool))) (w_net_Comes : (List (Int × (List UInt8) × Bool)) × Int → Option ((List (Int × (List UInt8) × Bool)) × Bool × Int × (List UInt8) × Bool)) (w_ref13_Gone : (List (Int × (List UInt8) × Bool)) × Int → Option ((List (Int × (List UInt8) × Bool)) × Bool × Int × (List UInt8) × Bool)) (w_net_Lost : (List (Int × (List UInt8) × Bool)) × Int → Option ((List (Int × (List UInt8) × Bool)) × Bool)) (w_net_Twice : (List (Int × (List UInt8) × Bool)) × Int → Option ((List (Int × (List UInt8) × Bool)) × Bool)) (w_ref13_Twice : (List (Int × (List UInt8) × Bool)) × Int → Option ((List (Int × (List UInt8) × Bool)) × Bool)) (w_net_Turned : (List (Int × (List UInt8) × Bool)) × Int × Int → Option ((List (Int × (List UInt8) × Bool)) × Bool)) (w_ref13_Turned : (List (Int × (List UInt8) × Bool)) × Int × Int → Option ((List (Int × (List UInt8) × Bool)) × Bool)) (w_ref13_SameGrams : (List (Int × (List UInt8) × Bool)) × List (Int × (List UInt8) × Bool) → Option (Bool)) (N : Nat) (x : (List (Int × Int × Int × Int)) × Int × Int × (List UInt8) × Bool) : Option (Bool) :=
  (evT (G_law13_NetAll w_net_Send w_ref13_Send w_net_Comes w_ref13_Gone w_net_Lost w_net_Twice w_ref13_Twice w_net_Turned w_ref13_Turned w_ref13_SameGrams N) L0 P0 [(7, .loop [] ⟨[(5, .ptr 600005 0), (7, .val (.list (.agg (.pair (.int .i64) (.pair .str .bool))))), (8, .val (.list (.agg (.pair (.int .i64) (.pair .str .bool))))), (9, .val (.int .i64))], [(600005, .box 45 (.val (.pair (.int .i64) (.pair .str .bool))))]⟩ [(.exit 0, ⟨[], []⟩), (.ret, ⟨[(6, .val .bool)], []⟩)])]
    [(27, .cut [7, 8] [(.normal, ⟨[(5, .ptr 600005 0), (15, .ptr 600015 0)], [(600005, .box 45 (.val (.pair (.int .i64) (.pair .str .bool)))), (600015, .box 45 (.val (.pair (.int .i64) (.pair .str .bool))))]⟩)]),
    (18, .cut [7, 8] [(.normal, ⟨[(5, .ptr 600005 0), (22, .val (.int .i64))], [(600005, .box 45 (.val (.pair (.int .i64) (.pair .str .bool))))]⟩)]),
    (39, .cut [7, 8] [(.normal, ⟨[(5, .ptr 600005 0), (178, .val .bool)], [(600005, .box 45 (.val (.pair (.int .i64) (.pair .str .bool))))]⟩)]),
    (24, .cut [7, 8] [(.normal, ⟨[(5, .ptr 600005 0), (101, .val .bool)], [(600005, .box 45 (.val (.pair (.int .i64) (.pair .str .bool))))]⟩)]),
    (41, .cut [] [(.normal, ⟨[(5, .ptr 600005 0), (11, .val (.list (.agg (.pair (.int .i64) (.pair .str .bool))))), (12, .val (.list (.agg (.pair (.int .i64) (.pair .str .bool))))), (13, .val .bool), (14, .val .bool)], [(600005, .box 45 (.val (.pair (.int .i64) (.pair .str .bool))))]⟩), (.ret, ⟨[(6, .val .bool)], []⟩)]),
    (12, .cut [7, 8] [(.normal, ⟨[(5, .ptr 600005 0), (10, .val (.int .i64))], [(600005, .box 45 (.val (.pair (.int .i64) (.pair .str .bool))))]⟩)])] N 400 (bodyOf Try.f7) ⟨206, slots 0 (argsOf as_law13_NetAll bs_law13_NetAll x), tabU (lbOf as_law13_NetAll bs_law13_NetAll x) [], []⟩).elim (kRet 206 pout_law13_NetAll (kpL []) (lbOf as_law13_NetAll bs_law13_NetAll x))
def out_law13_NetAll (y : Bool) : V × List OK × List OK := (valW .bool y, [], [])
noncomputable def V_law13_NetAll (w_net_Send : (List (Int × (List UInt8) × Bool)) × Int × (List UInt8) × Bool → Option (List (Int × (List UInt8) × Bool))) (w_ref13_Send : (List (Int × (List UInt8) × Bool)) × Int × (List UInt8) × Bool → Option (List (Int × (List UInt8) × Bool))) (w_net_Comes : (List (Int × (List UInt8) × Bool)) × Int → Option ((List (Int × (List UInt8) × Bool)) × Bool × Int × (List UInt8) × Bool)) (w_ref13_Gone : (List (Int × (List UInt8) × Bool)) × Int → Option ((List (Int × (List UInt8) × Bool)) × Bool × Int × (List UInt8) × Bool)) (w_net_Lost : (List (Int × (List UInt8) × Bool)) × Int → Option ((List (Int × (List UInt8) × Bool)) × Bool)) (w_net_Twice : (List (Int × (List UInt8) × Bool)) × Int → Option ((List (Int × (List UInt8) × Bool)) × Bool)) (w_ref13_Twice : (List (Int × (List UInt8) × Bool)) × Int → Option ((List (Int × (List UInt8) × Bool)) × Bool)) (w_net_Turned : (List (Int × (List UInt8) × Bool)) × Int × Int → Option ((List (Int × (List UInt8) × Bool)) × Bool)) (w_ref13_Turned : (List (Int × (List UInt8) × Bool)) × Int × Int → Option ((List (Int × (List UInt8) × Bool)) × Bool)) (w_ref13_SameGrams : (List (Int × (List UInt8) × Bool)) × List (Int × (List UInt8) × Bool) → Option (Bool)) (N : Nat) (x : (List (Int × Int × Int × Int)) × Int × Int × (List UInt8) × Bool) : Option (Bool) :=
  cnd (decide ((80 : Int) < (↑(List.length (Prod.fst x)) : Int))) (some true) (cnd (decide ((40 : Int) < (↑(List.length (Prod.fst (Prod.snd (Prod.snd
    (Prod.snd x))))) : Int))) (some true) (obind (loopN N (fun (v : List (Int × List UInt8 × Bool) × List (Int × List UInt8 × Bool) × Int × Int × List
    UInt8 × Bool) => cnd (decide (Prod.fst (Prod.snd (Prod.snd v)) < (↑(List.length (Prod.fst x)) : Int))) (cnd (decide ((0 : Int) ≤ Prod.fst (Prod.snd
    (Prod.snd v))) && decide (Prod.fst (Prod.snd (Prod.snd v)) < (↑(List.length (Prod.fst x)) : Int))) (obind (cnd (decide ((0 : Int) ≤ Prod.fst
    (Prod.snd (Prod.snd v))) && decide (Prod.fst (Prod.snd (Prod.snd v)) < (↑(List.length (Prod.fst x)) : Int))) (cnd (decide (Int.tmod (Prod.snd
    (Prod.snd (Prod.snd (List.getD (Prod.fst x) (Int.toNat (Prod.fst (Prod.snd (Prod.snd v)))) ((0 : Int), (0 : Int), (0 : Int), (0 : Int)))))) (16 :
    Int) = (0 : Int))) (some (Prod.fst (Prod.snd x), Prod.fst (Prod.snd (Prod.snd (Prod.snd v))), Prod.fst (Prod.snd (Prod.snd (Prod.snd (Prod.snd
    v)))), Prod.snd (Prod.snd (Prod.snd (Prod.snd (Prod.snd v)))))) (some (Int.tmod (wr IntKind.i64 (Prod.fst (Prod.snd (List.getD (Prod.fst x)
    (Int.toNat (Prod.fst (Prod.snd (Prod.snd v)))) ((0 : Int), (0 : Int), (0 : Int), (0 : Int)))))) (70 : Int), Prod.fst (Prod.snd (Prod.snd (Prod.snd
    v))), Prod.fst (Prod.snd (Prod.snd (Prod.snd (Prod.snd v)))), Prod.snd (Prod.snd (Prod.snd (Prod.snd (Prod.snd v))))))) none) fun (b : Int × Int ×
    List UInt8 × Bool) => obind (cnd (decide ((0 : Int) ≤ Prod.fst (Prod.snd (Prod.snd v))) && decide (Prod.fst (Prod.snd (Prod.snd v)) < (↑(List.length
    (Prod.fst x)) : Int))) (obind (cnd (decide (Int.tmod (Prod.fst (List.getD (Prod.fst x) (Int.toNat (Prod.fst (Prod.snd (Prod.snd v)))) ((0 : Int), (0
    : Int), (0 : Int), (0 : Int)))) (9 : Int) = (0 : Int))) (some (decide (Int.tmod (Prod.fst (List.getD (Prod.fst x) (Int.toNat (Prod.fst (Prod.snd
    (Prod.snd v)))) ((0 : Int), (0 : Int), (0 : Int), (0 : Int)))) (9 : Int) = (0 : Int)), Prod.fst (Prod.snd b), Prod.fst (Prod.snd (Prod.snd b)),
    Prod.snd (Prod.snd (Prod.snd b)))) (cnd (decide (Int.tmod (Prod.fst (List.getD (Prod.fst x) (Int.toNat (Prod.fst (Prod.snd (Prod.snd v)))) ((0 :
    Int), (0 : Int), (0 : Int), (0 : Int)))) (9 : Int) = (1 : Int))) (some (decide (Int.tmod (Prod.fst (List.getD (Prod.fst x) (Int.toNat (Prod.fst
    (Prod.snd (Prod.snd v)))) ((0 : Int), (0 : Int), (0 : Int), (0 : Int)))) (9 : Int) = (1 : Int)), Prod.fst (Prod.snd b), Prod.fst (Prod.snd (Prod.snd
    b)), Prod.snd (Prod.snd (Prod.snd b)))) (cnd (decide (Int.tmod (Prod.fst (List.getD (Prod.fst x) (Int.toNat (Prod.fst (Prod.snd (Prod.snd v)))) ((0
    : Int), (0 : Int), (0 : Int), (0 : Int)))) (9 : Int) = (2 : Int))) (some (decide (Int.tmod (Prod.fst (List.getD (Prod.fst x) (Int.toNat (Prod.fst
    (Prod.snd (Prod.snd v)))) ((0 : Int), (0 : Int), (0 : Int), (0 : Int)))) (9 : Int) = (2 : Int)), Prod.fst (Prod.snd b), Prod.fst (Prod.snd (Prod.snd
    b)), Prod.snd (Prod.snd (Prod.snd b)))) (some (decide (Int.tmod (Prod.fst (List.getD (Prod.fst x) (Int.toNat (Prod.fst (Prod.snd (Prod.snd v)))) ((0
    : Int), (0 : Int), (0 : Int), (0 : Int)))) (9 : Int) = (3 : Int)), Prod.fst (Prod.snd b), Prod.fst (Prod.snd (Prod.snd b)), Prod.snd (Prod.snd
    (Prod.snd b))))))) fun (b_1 : Bool × Int × List UInt8 × Bool) => cnd (Prod.fst b_1) (cnd (decide ((0 : Int) ≤ Prod.fst (Prod.snd (Prod.snd v))) &&
    decide (Prod.fst (Prod.snd (Prod.snd v)) < (↑(List.length (Prod.fst x)) : Int))) (cnd (decide ((0 : Int) ≤ Prod.fst (Prod.snd (Prod.snd v))) &&
    decide (Prod.fst (Prod.snd (Prod.snd v)) < (↑(List.length (Prod.fst x)) : Int))) (cnd (List.all [wr IntKind.u8 ((97 : Int) + Int.tmod (Prod.snd
    (Prod.snd (Prod.snd (List.getD (Prod.fst x) (Int.toNat (Prod.fst (Prod.snd (Prod.snd v)))) ((0 : Int), (0 : Int), (0 : Int), (0 : Int)))))) (26 :
    Int)), (122 : Int)] fun (n : Int) => decide ((0 : Int) ≤ n) && decide (n < (256 : Int))) (obind (cnd (decide ((0 : Int) ≤ Prod.fst (Prod.snd
    (Prod.snd v))) && decide (Prod.fst (Prod.snd (Prod.snd v)) < (↑(List.length (Prod.fst x)) : Int))) (cnd (decide (Int.tmod (Prod.fst (Prod.snd
    (Prod.snd (List.getD (Prod.fst x) (Int.toNat (Prod.fst (Prod.snd (Prod.snd v)))) ((0 : Int), (0 : Int), (0 : Int), (0 : Int)))))) (8 : Int) = (0 :
    Int))) (some ((Prod.fst (Prod.snd b_1), Prod.fst (Prod.snd (Prod.snd b_1)), Prod.snd (Prod.snd (Prod.snd b_1))), Prod.fst (Prod.snd b_1), Prod.fst
    (Prod.snd (Prod.snd b_1)), Prod.snd (Prod.snd (Prod.snd b_1)))) (some ((Prod.fst (Prod.snd b_1), Prod.fst (Prod.snd (Prod.snd b_1)), Prod.snd
    (Prod.snd (Prod.snd b_1))), wr IntKind.i64 ((1 : Int) + wr IntKind.i64 (Int.tmod (Prod.fst (Prod.snd (Prod.snd (List.getD (Prod.fst x) (Int.toNat
    (Prod.fst (Prod.snd (Prod.snd v)))) ((0 : Int), (0 : Int), (0 : Int), (0 : Int)))))) (8 : Int))), bytesI [wr IntKind.u8 ((97 : Int) + Int.tmod
    (Prod.snd (Prod.snd (Prod.snd (List.getD (Prod.fst x) (Int.toNat (Prod.fst (Prod.snd (Prod.snd v)))) ((0 : Int), (0 : Int), (0 : Int), (0 :
    Int)))))) (26 : Int)), (122 : Int)], false))) none) fun (b : (Int × List UInt8 × Bool) × Int × List UInt8 × Bool) => obind (w_net_Send (Prod.fst
    v, Prod.fst (Prod.snd b), Prod.fst (Prod.snd (Prod.snd b)), Prod.snd (Prod.snd (Prod.snd b)))) fun (b_2 : List (Int × List UInt8 × Bool)) => obind
    (w_ref13_Send (Prod.fst (Prod.snd v), Prod.fst (Prod.snd b), Prod.fst (Prod.snd (Prod.snd b)), Prod.snd (Prod.snd (Prod.snd b)))) fun (b_3 : List
    (Int × List UInt8 × Bool)) => some (Sum.inl (b_2, b_3, false, false, Prod.fst (Prod.fst b), Prod.fst (Prod.snd (Prod.fst b)), Prod.snd (Prod.snd
    (Prod.fst b))))) none) none) none) (cnd (decide (Int.tmod (Prod.fst (List.getD (Prod.fst x) (Int.toNat (Prod.fst (Prod.snd (Prod.snd v)))) ((0 :
    Int), (0 : Int), (0 : Int), (0 : Int)))) (9 : Int) = (4 : Int))) (obind (w_net_Comes (Prod.fst v, Int.tmod (Prod.fst b) (9 : Int))) fun (b_2 :
    List (Int × List UInt8 × Bool) × Bool × Int × List UInt8 × Bool) => obind (w_ref13_Gone (Prod.fst (Prod.snd v), Int.tmod (Prod.fst b) (9 : Int)))
    fun (b : List (Int × List UInt8 × Bool) × Bool × Int × List UInt8 × Bool) => cnd (!(decide (Prod.fst (Prod.snd (Prod.snd b_2)) = Prod.fst (Prod.snd
    (Prod.snd b))) && (Prod.fst (Prod.snd (Prod.snd (Prod.snd b_2))) == Prod.fst (Prod.snd (Prod.snd (Prod.snd b))) && Prod.snd (Prod.snd (Prod.snd
    (Prod.snd b_2))) == Prod.snd (Prod.snd (Prod.snd (Prod.snd b)))))) (some (Sum.inr false)) (some (Sum.inl (Prod.fst b_2, Prod.fst b, Prod.fst
    (Prod.snd b_2), Prod.fst (Prod.snd b), Prod.fst (Prod.snd b_1), Prod.fst (Prod.snd (Prod.snd b_1)), Prod.snd (Prod.snd (Prod.snd b_1)))))) (cnd
    (decide (Int.tmod (Prod.fst (List.getD (Prod.fst x) (Int.toNat (Prod.fst (Prod.snd (Prod.snd v)))) ((0 : Int), (0 : Int), (0 : Int), (0 : Int)))) (9
    : Int) = (5 : Int))) (obind (w_net_Lost (Prod.fst v, Prod.fst b)) fun (b_2 : List (Int × List UInt8 × Bool) × Bool) => obind (w_ref13_Gone
    (Prod.fst (Prod.snd v), Prod.fst b)) fun (b : List (Int × List UInt8 × Bool) × Bool × Int × List UInt8 × Bool) => some (Sum.inl (Prod.fst b_2,
    Prod.fst b, Prod.snd b_2, Prod.fst (Prod.snd b), Prod.fst (Prod.snd b_1), Prod.fst (Prod.snd (Prod.snd b_1)), Prod.snd (Prod.snd (Prod.snd b_1)))))
    (obind (cnd (decide (Int.tmod (Prod.fst (List.getD (Prod.fst x) (Int.toNat (Prod.fst (Prod.snd (Prod.snd v)))) ((0 : Int), (0 : Int), (0 : Int), (0
    : Int)))) (9 : Int) = (6 : Int))) (some (decide (Int.tmod (Prod.fst (List.getD (Prod.fst x) (Int.toNat (Prod.fst (Prod.snd (Prod.snd v)))) ((0 :
    Int), (0 : Int), (0 : Int), (0 : Int)))) (9 : Int) = (6 : Int)), Prod.fst (Prod.snd b_1), Prod.fst (Prod.snd (Prod.snd b_1)), Prod.snd (Prod.snd
    (Prod.snd b_1)))) (some (decide (Int.tmod (Prod.fst (List.getD (Prod.fst x) (Int.toNat (Prod.fst (Prod.snd (Prod.snd v)))) ((0 : Int), (0 : Int), (0
    : Int), (0 : Int)))) (9 : Int) = (7 : Int)), Prod.fst (Prod.snd b_1), Prod.fst (Prod.snd (Prod.snd b_1)), Prod.snd (Prod.snd (Prod.snd b_1))))) fun
    (b_2 : Bool × Int × List UInt8 × Bool) => cnd (Prod.fst b_2) (obind (w_net_Twice (Prod.fst v, Int.tmod (Prod.fst b) (20 : Int))) fun (b_3 : List
    (Int × List UInt8 × Bool) × Bool) => obind (w_ref13_Twice (Prod.fst (Prod.snd v), Int.tmod (Prod.fst b) (20 : Int))) fun (b : List (Int × List
    UInt8 × Bool) × Bool) => some (Sum.inl (Prod.fst b_3, Prod.fst b, Prod.snd b_3, Prod.snd b, Prod.fst (Prod.snd b_2), Prod.fst (Prod.snd (Prod.snd
    b_2)), Prod.snd (Prod.snd (Prod.snd b_2))))) (cnd (decide ((0 : Int) ≤ Prod.fst (Prod.snd (Prod.snd v))) && decide (Prod.fst (Prod.snd (Prod.snd v))
    < (↑(List.length (Prod.fst x)) : Int))) (cnd (decide ((0 : Int) ≤ Prod.fst (Prod.snd (Prod.snd v))) && decide (Prod.fst (Prod.snd (Prod.snd v)) <
    (↑(List.length (Prod.fst x)) : Int))) (obind (cnd (decide ((0 : Int) ≤ Prod.fst (Prod.snd (Prod.snd v))) && decide (Prod.fst (Prod.snd (Prod.snd v))
    < (↑(List.length (Prod.fst x)) : Int))) (cnd (decide (Int.tmod (Prod.fst (Prod.snd (Prod.snd (List.getD (Prod.fst x) (Int.toNat (Prod.fst (Prod.snd
    (Prod.snd v)))) ((0 : Int), (0 : Int), (0 : Int), (0 : Int)))))) (16 : Int) = (1 : Int))) (some (Prod.fst (Prod.snd x), Prod.fst (Prod.snd b_2),
    Prod.fst (Prod.snd (Prod.snd b_2)), Prod.snd (Prod.snd (Prod.snd b_2)))) (some (wr IntKind.i64 (wr IntKind.i64 (wr IntKind.i64 (Prod.fst (Prod.snd
    (Prod.snd (List.getD (Prod.fst x) (Int.toNat (Prod.fst (Prod.snd (Prod.snd v)))) ((0 : Int), (0 : Int), (0 : Int), (0 : Int)))))) * (256 : Int)) +
    wr IntKind.i64 (Prod.snd (Prod.snd (Prod.snd (List.getD (Prod.fst x) (Int.toNat (Prod.fst (Prod.snd (Prod.snd v)))) ((0 : Int), (0 : Int), (0 :
    Int), (0 : Int))))))), Prod.fst (Prod.snd b_2), Prod.fst (Prod.snd (Prod.snd b_2)), Prod.snd (Prod.snd (Prod.snd b_2))))) none) fun (b_3 : Int × Int
    × List UInt8 × Bool) => obind (w_net_Turned (Prod.fst v, Int.tmod (Prod.fst b) (20 : Int), Prod.fst b_3)) fun (b_4 : List (Int × List UInt8 ×
    Bool) × Bool) => obind (w_ref13_Turned (Prod.fst (Prod.snd v), Int.tmod (Prod.fst b) (20 : Int), Prod.fst b_3)) fun (b : List (Int × List UInt8 ×
    Bool) × Bool) => some (Sum.inl (Prod.fst b_4, Prod.fst b, Prod.snd b_4, Prod.snd b, Prod.fst (Prod.snd b_3), Prod.fst (Prod.snd (Prod.snd b_3)),
    Prod.snd (Prod.snd (Prod.snd b_3))))) none) none))))) none) fun (b : List (Int × List UInt8 × Bool) × List (Int × List UInt8 × Bool) × Bool × Bool ×
    Int × List UInt8 × Bool ⊕ Bool) => selim (fun (b : List (Int × List UInt8 × Bool) × List (Int × List UInt8 × Bool) × Bool × Bool × Int × List UInt8
    × Bool) => cnd (!Prod.fst (Prod.snd (Prod.snd b)) == Prod.fst (Prod.snd (Prod.snd (Prod.snd b)))) (some (Sum.inr (Sum.inr false))) (obind
    (w_ref13_SameGrams (Prod.fst b, Prod.fst (Prod.snd b))) fun (b_1 : Bool) => cnd (!b_1) (some (Sum.inr (Sum.inr false))) (some (Sum.inl (Prod.fst
    b, Prod.fst (Prod.snd b), wr IntKind.i64 (Prod.fst (Prod.snd (Prod.snd v)) + (1 : Int)), Prod.fst (Prod.snd (Prod.snd (Prod.snd (Prod.snd b)))),
    Prod.fst (Prod.snd (Prod.snd (Prod.snd (Prod.snd (Prod.snd b))))), Prod.snd (Prod.snd (Prod.snd (Prod.snd (Prod.snd (Prod.snd b)))))))))) (fun (c :
    Bool) => some (Sum.inr (Sum.inr c))) b) none) (some (Sum.inr (Sum.inl ())))) ([], [], (0 : Int), Prod.fst (Prod.snd (Prod.snd x)), Prod.fst
    (Prod.snd (Prod.snd (Prod.snd x))), Prod.snd (Prod.snd (Prod.snd (Prod.snd x))))) fun (b : PUnit ⊕ Bool) => selim (fun (b : PUnit) => some true)
    (fun (c : Bool) => some c) b))
theorem FV_law13_NetAll_eq (w_net_Send : (List (Int × (List UInt8) × Bool)) × Int × (List UInt8) × Bool → Option (List (Int × (List UInt8) × Bool))) (w_ref13_Send : (List (Int × (List UInt8) × Bool)) × Int × (List UInt8) × Bool → Option (List (Int × (List UInt8) × Bool))) (w_net_Comes : (List (Int × (List UInt8) × Bool)) × Int → Option ((List (Int × (List UInt8) × Bool)) × Bool × Int × (List UInt8) × Bool)) (w_ref13_Gone : (List (Int × (List UInt8) × Bool)) × Int → Option ((List (Int × (List UInt8) × Bool)) × Bool × Int × (List UInt8) × Bool)) (w_net_Lost : (List (Int × (List UInt8) × Bool)) × Int → Option ((List (Int × (List UInt8) × Bool)) × Bool)) (w_net_Twice : (List (Int × (List UInt8) × Bool)) × Int → Option ((List (Int × (List UInt8) × Bool)) × Bool)) (w_ref13_Twice : (List (Int × (List UInt8) × Bool)) × Int → Option ((List (Int × (List UInt8) × Bool)) × Bool)) (w_net_Turned : (List (Int × (List UInt8) × Bool)) × Int × Int → Option ((List (Int × (List UInt8) × Bool)) × Bool)) (w_ref13_Turned : (List (Int × (List UInt8) × Bool)) × Int × Int → Option ((List (Int × (List UInt8) × Bool)) × Bool)) (w_ref13_SameGrams : (List (Int × (List UInt8) × Bool)) × List (Int × (List UInt8) × Bool) → Option (Bool)) (N : Nat) (x : (List (Int × Int × Int × Int)) × Int × Int × (List UInt8) × Bool) : F_law13_NetAll w_net_Send w_ref13_Send w_net_Comes w_ref13_Gone w_net_Lost w_net_Twice w_ref13_Twice w_net_Turned w_ref13_Turned w_ref13_SameGrams N x = V_law13_NetAll w_net_Send w_ref13_Send w_net_Comes w_ref13_Gone w_net_Lost w_net_Twice w_ref13_Twice w_net_Turned w_ref13_Turned w_ref13_SameGrams N x := by kernel_rfl
noncomputable def W_law13_NetAll (N : Nat) (x : (List (Int × Int × Int × Int)) × Int × Int × (List UInt8) × Bool) : Option (Bool) :=
  cnd (decide ((80 : Int) < (↑(List.length (Prod.fst x)) : Int))) (some true) (cnd (decide ((40 : Int) < (↑(List.length (Prod.fst (Prod.snd (Prod.snd
    (Prod.snd x))))) : Int))) (some true) (obind (loopN N (fun (v : List (Int × List UInt8 × Bool) × List (Int × List UInt8 × Bool) × Int × Int × List
    UInt8 × Bool) => cnd (decide (Prod.fst (Prod.snd (Prod.snd v)) < (↑(List.length (Prod.fst x)) : Int))) (cnd (decide ((0 : Int) ≤ Prod.fst (Prod.snd
    (Prod.snd v))) && decide (Prod.fst (Prod.snd (Prod.snd v)) < (↑(List.length (Prod.fst x)) : Int))) (obind (cnd (decide ((0 : Int) ≤ Prod.fst
    (Prod.snd (Prod.snd v))) && decide (Prod.fst (Prod.snd (Prod.snd v)) < (↑(List.length (Prod.fst x)) : Int))) (cnd (decide (Int.tmod (Prod.snd
    (Prod.snd (Prod.snd (List.getD (Prod.fst x) (Int.toNat (Prod.fst (Prod.snd (Prod.snd v)))) ((0 : Int), (0 : Int), (0 : Int), (0 : Int)))))) (16 :
    Int) = (0 : Int))) (some (Prod.fst (Prod.snd x), Prod.fst (Prod.snd (Prod.snd (Prod.snd v))), Prod.fst (Prod.snd (Prod.snd (Prod.snd (Prod.snd
    v)))), Prod.snd (Prod.snd (Prod.snd (Prod.snd (Prod.snd v)))))) (some (Int.tmod (wr IntKind.i64 (Prod.fst (Prod.snd (List.getD (Prod.fst x)
    (Int.toNat (Prod.fst (Prod.snd (Prod.snd v)))) ((0 : Int), (0 : Int), (0 : Int), (0 : Int)))))) (70 : Int), Prod.fst (Prod.snd (Prod.snd (Prod.snd
    v))), Prod.fst (Prod.snd (Prod.snd (Prod.snd (Prod.snd v)))), Prod.snd (Prod.snd (Prod.snd (Prod.snd (Prod.snd v))))))) none) fun (b : Int × Int ×
    List UInt8 × Bool) => obind (cnd (decide ((0 : Int) ≤ Prod.fst (Prod.snd (Prod.snd v))) && decide (Prod.fst (Prod.snd (Prod.snd v)) < (↑(List.length
    (Prod.fst x)) : Int))) (obind (cnd (decide (Int.tmod (Prod.fst (List.getD (Prod.fst x) (Int.toNat (Prod.fst (Prod.snd (Prod.snd v)))) ((0 : Int), (0
    : Int), (0 : Int), (0 : Int)))) (9 : Int) = (0 : Int))) (some (decide (Int.tmod (Prod.fst (List.getD (Prod.fst x) (Int.toNat (Prod.fst (Prod.snd
    (Prod.snd v)))) ((0 : Int), (0 : Int), (0 : Int), (0 : Int)))) (9 : Int) = (0 : Int)), Prod.fst (Prod.snd b), Prod.fst (Prod.snd (Prod.snd b)),
    Prod.snd (Prod.snd (Prod.snd b)))) (cnd (decide (Int.tmod (Prod.fst (List.getD (Prod.fst x) (Int.toNat (Prod.fst (Prod.snd (Prod.snd v)))) ((0 :
    Int), (0 : Int), (0 : Int), (0 : Int)))) (9 : Int) = (1 : Int))) (some (decide (Int.tmod (Prod.fst (List.getD (Prod.fst x) (Int.toNat (Prod.fst
    (Prod.snd (Prod.snd v)))) ((0 : Int), (0 : Int), (0 : Int), (0 : Int)))) (9 : Int) = (1 : Int)), Prod.fst (Prod.snd b), Prod.fst (Prod.snd (Prod.snd
    b)), Prod.snd (Prod.snd (Prod.snd b)))) (cnd (decide (Int.tmod (Prod.fst (List.getD (Prod.fst x) (Int.toNat (Prod.fst (Prod.snd (Prod.snd v)))) ((0
    : Int), (0 : Int), (0 : Int), (0 : Int)))) (9 : Int) = (2 : Int))) (some (decide (Int.tmod (Prod.fst (List.getD (Prod.fst x) (Int.toNat (Prod.fst
    (Prod.snd (Prod.snd v)))) ((0 : Int), (0 : Int), (0 : Int), (0 : Int)))) (9 : Int) = (2 : Int)), Prod.fst (Prod.snd b), Prod.fst (Prod.snd (Prod.snd
    b)), Prod.snd (Prod.snd (Prod.snd b)))) (some (decide (Int.tmod (Prod.fst (List.getD (Prod.fst x) (Int.toNat (Prod.fst (Prod.snd (Prod.snd v)))) ((0
    : Int), (0 : Int), (0 : Int), (0 : Int)))) (9 : Int) = (3 : Int)), Prod.fst (Prod.snd b), Prod.fst (Prod.snd (Prod.snd b)), Prod.snd (Prod.snd
    (Prod.snd b))))))) fun (b_1 : Bool × Int × List UInt8 × Bool) => cnd (Prod.fst b_1) (cnd (decide ((0 : Int) ≤ Prod.fst (Prod.snd (Prod.snd v))) &&
    decide (Prod.fst (Prod.snd (Prod.snd v)) < (↑(List.length (Prod.fst x)) : Int))) (cnd (decide ((0 : Int) ≤ Prod.fst (Prod.snd (Prod.snd v))) &&
    decide (Prod.fst (Prod.snd (Prod.snd v)) < (↑(List.length (Prod.fst x)) : Int))) (cnd (List.all [wr IntKind.u8 ((97 : Int) + Int.tmod (Prod.snd
    (Prod.snd (Prod.snd (List.getD (Prod.fst x) (Int.toNat (Prod.fst (Prod.snd (Prod.snd v)))) ((0 : Int), (0 : Int), (0 : Int), (0 : Int)))))) (26 :
    Int)), (122 : Int)] fun (n : Int) => decide ((0 : Int) ≤ n) && decide (n < (256 : Int))) (obind (cnd (decide ((0 : Int) ≤ Prod.fst (Prod.snd
    (Prod.snd v))) && decide (Prod.fst (Prod.snd (Prod.snd v)) < (↑(List.length (Prod.fst x)) : Int))) (cnd (decide (Int.tmod (Prod.fst (Prod.snd
    (Prod.snd (List.getD (Prod.fst x) (Int.toNat (Prod.fst (Prod.snd (Prod.snd v)))) ((0 : Int), (0 : Int), (0 : Int), (0 : Int)))))) (8 : Int) = (0 :
    Int))) (some ((Prod.fst (Prod.snd b_1), Prod.fst (Prod.snd (Prod.snd b_1)), Prod.snd (Prod.snd (Prod.snd b_1))), Prod.fst (Prod.snd b_1), Prod.fst
    (Prod.snd (Prod.snd b_1)), Prod.snd (Prod.snd (Prod.snd b_1)))) (some ((Prod.fst (Prod.snd b_1), Prod.fst (Prod.snd (Prod.snd b_1)), Prod.snd
    (Prod.snd (Prod.snd b_1))), wr IntKind.i64 ((1 : Int) + wr IntKind.i64 (Int.tmod (Prod.fst (Prod.snd (Prod.snd (List.getD (Prod.fst x) (Int.toNat
    (Prod.fst (Prod.snd (Prod.snd v)))) ((0 : Int), (0 : Int), (0 : Int), (0 : Int)))))) (8 : Int))), bytesI [wr IntKind.u8 ((97 : Int) + Int.tmod
    (Prod.snd (Prod.snd (Prod.snd (List.getD (Prod.fst x) (Int.toNat (Prod.fst (Prod.snd (Prod.snd v)))) ((0 : Int), (0 : Int), (0 : Int), (0 :
    Int)))))) (26 : Int)), (122 : Int)], false))) none) fun (b : (Int × List UInt8 × Bool) × Int × List UInt8 × Bool) => obind (W_net_Send N (Prod.fst
    v, Prod.fst (Prod.snd b), Prod.fst (Prod.snd (Prod.snd b)), Prod.snd (Prod.snd (Prod.snd b)))) fun (b_2 : List (Int × List UInt8 × Bool)) => obind
    (W_ref13_Send N (Prod.fst (Prod.snd v), Prod.fst (Prod.snd b), Prod.fst (Prod.snd (Prod.snd b)), Prod.snd (Prod.snd (Prod.snd b)))) fun (b_3 : List
    (Int × List UInt8 × Bool)) => some (Sum.inl (b_2, b_3, false, false, Prod.fst (Prod.fst b), Prod.fst (Prod.snd (Prod.fst b)), Prod.snd (Prod.snd
    (Prod.fst b))))) none) none) none) (cnd (decide (Int.tmod (Prod.fst (List.getD (Prod.fst x) (Int.toNat (Prod.fst (Prod.snd (Prod.snd v)))) ((0 :
    Int), (0 : Int), (0 : Int), (0 : Int)))) (9 : Int) = (4 : Int))) (obind (W_net_Comes N (Prod.fst v, Int.tmod (Prod.fst b) (9 : Int))) fun (b_2 :
    List (Int × List UInt8 × Bool) × Bool × Int × List UInt8 × Bool) => obind (W_ref13_Gone N (Prod.fst (Prod.snd v), Int.tmod (Prod.fst b) (9 : Int)))
    fun (b : List (Int × List UInt8 × Bool) × Bool × Int × List UInt8 × Bool) => cnd (!(decide (Prod.fst (Prod.snd (Prod.snd b_2)) = Prod.fst (Prod.snd
    (Prod.snd b))) && (Prod.fst (Prod.snd (Prod.snd (Prod.snd b_2))) == Prod.fst (Prod.snd (Prod.snd (Prod.snd b))) && Prod.snd (Prod.snd (Prod.snd
    (Prod.snd b_2))) == Prod.snd (Prod.snd (Prod.snd (Prod.snd b)))))) (some (Sum.inr false)) (some (Sum.inl (Prod.fst b_2, Prod.fst b, Prod.fst
    (Prod.snd b_2), Prod.fst (Prod.snd b), Prod.fst (Prod.snd b_1), Prod.fst (Prod.snd (Prod.snd b_1)), Prod.snd (Prod.snd (Prod.snd b_1)))))) (cnd
    (decide (Int.tmod (Prod.fst (List.getD (Prod.fst x) (Int.toNat (Prod.fst (Prod.snd (Prod.snd v)))) ((0 : Int), (0 : Int), (0 : Int), (0 : Int)))) (9
    : Int) = (5 : Int))) (obind (W_net_Lost N (Prod.fst v, Prod.fst b)) fun (b_2 : List (Int × List UInt8 × Bool) × Bool) => obind (W_ref13_Gone N
    (Prod.fst (Prod.snd v), Prod.fst b)) fun (b : List (Int × List UInt8 × Bool) × Bool × Int × List UInt8 × Bool) => some (Sum.inl (Prod.fst b_2,
    Prod.fst b, Prod.snd b_2, Prod.fst (Prod.snd b), Prod.fst (Prod.snd b_1), Prod.fst (Prod.snd (Prod.snd b_1)), Prod.snd (Prod.snd (Prod.snd b_1)))))
    (obind (cnd (decide (Int.tmod (Prod.fst (List.getD (Prod.fst x) (Int.toNat (Prod.fst (Prod.snd (Prod.snd v)))) ((0 : Int), (0 : Int), (0 : Int), (0
    : Int)))) (9 : Int) = (6 : Int))) (some (decide (Int.tmod (Prod.fst (List.getD (Prod.fst x) (Int.toNat (Prod.fst (Prod.snd (Prod.snd v)))) ((0 :
    Int), (0 : Int), (0 : Int), (0 : Int)))) (9 : Int) = (6 : Int)), Prod.fst (Prod.snd b_1), Prod.fst (Prod.snd (Prod.snd b_1)), Prod.snd (Prod.snd
    (Prod.snd b_1)))) (some (decide (Int.tmod (Prod.fst (List.getD (Prod.fst x) (Int.toNat (Prod.fst (Prod.snd (Prod.snd v)))) ((0 : Int), (0 : Int), (0
    : Int), (0 : Int)))) (9 : Int) = (7 : Int)), Prod.fst (Prod.snd b_1), Prod.fst (Prod.snd (Prod.snd b_1)), Prod.snd (Prod.snd (Prod.snd b_1))))) fun
    (b_2 : Bool × Int × List UInt8 × Bool) => cnd (Prod.fst b_2) (obind (W_net_Twice N (Prod.fst v, Int.tmod (Prod.fst b) (20 : Int))) fun (b_3 : List
    (Int × List UInt8 × Bool) × Bool) => obind (W_ref13_Twice N (Prod.fst (Prod.snd v), Int.tmod (Prod.fst b) (20 : Int))) fun (b : List (Int × List
    UInt8 × Bool) × Bool) => some (Sum.inl (Prod.fst b_3, Prod.fst b, Prod.snd b_3, Prod.snd b, Prod.fst (Prod.snd b_2), Prod.fst (Prod.snd (Prod.snd
    b_2)), Prod.snd (Prod.snd (Prod.snd b_2))))) (cnd (decide ((0 : Int) ≤ Prod.fst (Prod.snd (Prod.snd v))) && decide (Prod.fst (Prod.snd (Prod.snd v))
    < (↑(List.length (Prod.fst x)) : Int))) (cnd (decide ((0 : Int) ≤ Prod.fst (Prod.snd (Prod.snd v))) && decide (Prod.fst (Prod.snd (Prod.snd v)) <
    (↑(List.length (Prod.fst x)) : Int))) (obind (cnd (decide ((0 : Int) ≤ Prod.fst (Prod.snd (Prod.snd v))) && decide (Prod.fst (Prod.snd (Prod.snd v))
    < (↑(List.length (Prod.fst x)) : Int))) (cnd (decide (Int.tmod (Prod.fst (Prod.snd (Prod.snd (List.getD (Prod.fst x) (Int.toNat (Prod.fst (Prod.snd
    (Prod.snd v)))) ((0 : Int), (0 : Int), (0 : Int), (0 : Int)))))) (16 : Int) = (1 : Int))) (some (Prod.fst (Prod.snd x), Prod.fst (Prod.snd b_2),
    Prod.fst (Prod.snd (Prod.snd b_2)), Prod.snd (Prod.snd (Prod.snd b_2)))) (some (wr IntKind.i64 (wr IntKind.i64 (wr IntKind.i64 (Prod.fst (Prod.snd
    (Prod.snd (List.getD (Prod.fst x) (Int.toNat (Prod.fst (Prod.snd (Prod.snd v)))) ((0 : Int), (0 : Int), (0 : Int), (0 : Int)))))) * (256 : Int)) +
    wr IntKind.i64 (Prod.snd (Prod.snd (Prod.snd (List.getD (Prod.fst x) (Int.toNat (Prod.fst (Prod.snd (Prod.snd v)))) ((0 : Int), (0 : Int), (0 :
    Int), (0 : Int))))))), Prod.fst (Prod.snd b_2), Prod.fst (Prod.snd (Prod.snd b_2)), Prod.snd (Prod.snd (Prod.snd b_2))))) none) fun (b_3 : Int × Int
    × List UInt8 × Bool) => obind (W_net_Turned N (Prod.fst v, Int.tmod (Prod.fst b) (20 : Int), Prod.fst b_3)) fun (b_4 : List (Int × List UInt8 ×
    Bool) × Bool) => obind (W_ref13_Turned N (Prod.fst (Prod.snd v), Int.tmod (Prod.fst b) (20 : Int), Prod.fst b_3)) fun (b : List (Int × List UInt8 ×
    Bool) × Bool) => some (Sum.inl (Prod.fst b_4, Prod.fst b, Prod.snd b_4, Prod.snd b, Prod.fst (Prod.snd b_3), Prod.fst (Prod.snd (Prod.snd b_3)),
    Prod.snd (Prod.snd (Prod.snd b_3))))) none) none))))) none) fun (b : List (Int × List UInt8 × Bool) × List (Int × List UInt8 × Bool) × Bool × Bool ×
    Int × List UInt8 × Bool ⊕ Bool) => selim (fun (b : List (Int × List UInt8 × Bool) × List (Int × List UInt8 × Bool) × Bool × Bool × Int × List UInt8
    × Bool) => cnd (!Prod.fst (Prod.snd (Prod.snd b)) == Prod.fst (Prod.snd (Prod.snd (Prod.snd b)))) (some (Sum.inr (Sum.inr false))) (obind
    (W_ref13_SameGrams N (Prod.fst b, Prod.fst (Prod.snd b))) fun (b_1 : Bool) => cnd (!b_1) (some (Sum.inr (Sum.inr false))) (some (Sum.inl (Prod.fst
    b, Prod.fst (Prod.snd b), wr IntKind.i64 (Prod.fst (Prod.snd (Prod.snd v)) + (1 : Int)), Prod.fst (Prod.snd (Prod.snd (Prod.snd (Prod.snd b)))),
    Prod.fst (Prod.snd (Prod.snd (Prod.snd (Prod.snd (Prod.snd b))))), Prod.snd (Prod.snd (Prod.snd (Prod.snd (Prod.snd (Prod.snd b)))))))))) (fun (c :
    Bool) => some (Sum.inr (Sum.inr c))) b) none) (some (Sum.inr (Sum.inl ())))) ([], [], (0 : Int), Prod.fst (Prod.snd (Prod.snd x)), Prod.fst
    (Prod.snd (Prod.snd (Prod.snd x))), Prod.snd (Prod.snd (Prod.snd (Prod.snd x))))) fun (b : PUnit ⊕ Bool) => selim (fun (b : PUnit) => some true)
    (fun (c : Bool) => some c) b))
theorem F_law13_NetAll_eq (N : Nat) (x : (List (Int × Int × Int × Int)) × Int × Int × (List UInt8) × Bool) : F_law13_NetAll (W_net_Send N) (W_ref13_Send N) (W_net_Comes N) (W_ref13_Gone N) (W_net_Lost N) (W_net_Twice N) (W_ref13_Twice N) (W_net_Turned N) (W_ref13_Turned N) (W_ref13_SameGrams N) N x = W_law13_NetAll N x := (FV_law13_NetAll_eq (W_net_Send N) (W_ref13_Send N) (W_net_Comes N) (W_ref13_Gone N) (W_net_Lost N) (W_net_Twice N) (W_ref13_Twice N) (W_net_Turned N) (W_ref13_Turned N) (W_ref13_SameGrams N) N x).trans (by kernel_rfl)
noncomputable def conw_law13_NetAll (w : (List (Int × Int × Int × Int)) × Int × Int × (List UInt8) × Bool → Option (Bool)) : Con := ⟨7, as_law13_NetAll, bs_law13_NetAll, Bool, w, out_law13_NetAll⟩
noncomputable def con_law13_NetAll (N : Nat) : Con := conw_law13_NetAll (W_law13_NetAll N)
theorem R_law13_NetAll_eq (x : (List (Int × Int × Int × Int)) × Int × Int × (List UInt8) × Bool) (y : Bool) : retOf2 P0 Try.f7 (kpL []) (lbOf as_law13_NetAll bs_law13_NetAll x) (patS ⟨206, [], [], []⟩ pout_law13_NetAll y) = some (out_law13_NetAll y) := by kernel_rfl
theorem con_law13_NetAll_ok (N : Nat) : Con.ok P0 (con_law13_NetAll N) := ⟨⟨Try.f7, Try.func7, by kernel_rfl, by kernel_rfl⟩, fun (x : (List (Int × Int × Int × Int)) × Int × Int × (List UInt8) × Bool) (r : Bool) (hr : W_law13_NetAll N x = some r) =>
  spec2_evT (Γ := G_law13_NetAll (W_net_Send N) (W_ref13_Send N) (W_net_Comes N) (W_ref13_Gone N) (W_net_Lost N) (W_net_Twice N) (W_ref13_Twice N) (W_net_Turned N) (W_ref13_Turned N) (W_ref13_SameGrams N) N) (Λ := L0) (pout := pout_law13_NetAll) (kp := kpL []) mixed (orcOf_ok _ (by simp only [List.mem_cons, List.not_mem_nil, or_false, forall_eq_or_imp, forall_eq]; exact ⟨con_law13_begun_ok N, con_net_Send_ok N, con_ref13_Send_ok N, con_net_Comes_ok N, con_ref13_Gone_ok N, con_net_Lost_ok N, con_net_Twice_ok N, con_ref13_Twice_ok N, con_net_Turned_ok N, con_ref13_Turned_ok N, con_ref13_SameGrams_ok N⟩)) Try.func7 (c := bodyOf Try.f7) (by kernel_rfl) (by kernel_rfl) (of_decide_eq_true (by kernel_rfl)) ((F_law13_NetAll_eq N x).trans hr) (R_law13_NetAll_eq x r)⟩
/-! What is reckoned. -/
-- PURE
theorem wr_m {z : Int} (h : -140737488355328 ≤ z) (h2 : z ≤ 140737488355328) : wr .i64 z = z := wr_i64 (by omega) (by omega)
abbrev Gr := Int × List UInt8 × Bool
abbrev gD : Gr := ((0 : Int), ([] : List UInt8), false)
theorem Clone_g (N : Nat) (l : List Gr) (hl : l.length ≤ 1000) : W_slices_Clone_api_Gram N l = some l := by
  unfold W_slices_Clone_api_Gram
  rw [dT (by omega), cnd_t]
theorem Send_eq (N : Nat) (l : List Gr) (g : Gr) (hl : l.length ≤ 1000) : W_net_Send N (l, g) = some (if 60 ≤ l.length then l else l ++ [g]) := by
  unfold W_net_Send
  simp only [Clone_g N l hl, obind_s]
  by_cases h : 60 ≤ l.length
  · rw [dT (by omega), cnd_t, if_pos h]
  · rw [dF (by omega), cnd_f, dT (by simp only [List.length_singleton]; omega), cnd_t, if_neg h]
theorem there_eq (N : Nat) (l : List Gr) (i : Int) : W_net_there N (l, i) = some (decide (0 ≤ i ∧ i < l.length)) := by
  unfold W_net_there
  simp only
  by_cases h : 0 ≤ i
  · rw [dT h, cnd_t]
    by_cases h2 : i < l.length
    · rw [dT h2, dT ⟨h, h2⟩]
    · rw [dF h2, dF (fun q => h2 q.2)]
  · rw [dF h, cnd_f, dF (fun q => h q.1)]
theorem Lost_no (N : Nat) (l : List Gr) (i : Int) (hl : l.length ≤ 1000) (h : ¬ (0 ≤ i ∧ i < l.length)) : W_net_Lost N (l, i) = some (l, false) := by
  unfold W_net_Lost
  simp only [Clone_g N l hl, obind_s, there_eq]
  rw [dF h, Bool.not_false, cnd_t]
theorem Lost_yes (N : Nat) (l : List Gr) (i : Nat) (hl : l.length ≤ 1000) (h : i < l.length) : W_net_Lost N (l, (i : Int)) = some (l.take i ++ l.drop (i + 1), true) := by
  unfold W_net_Lost
  simp only [Clone_g N l hl, obind_s, there_eq]
  rw [dT ⟨by omega, by omega⟩, Bool.not_true, cnd_f, wr_m (by omega) (by omega)]
  unfold W_slices_Delete_api_Gram
  simp only
  rw [dT (by omega), dT (by omega), dT trivial, dT (by omega)]
  simp only [Bool.and_self, cnd_t, obind_s, Int.toNat_natCast]
theorem Comes_no (N : Nat) (l : List Gr) (i : Int) (hl : l.length ≤ 1000) (h : ¬ (0 ≤ i ∧ i < l.length)) : W_net_Comes N (l, i) = some (l, false, gD) := by
  unfold W_net_Comes
  simp only [Lost_no N l i hl h, obind_s]
  rw [Bool.not_false, cnd_t]
theorem Comes_yes (N : Nat) (l : List Gr) (i : Nat) (hl : l.length ≤ 1000) (h : i < l.length) : W_net_Comes N (l, (i : Int)) = some (l.take i ++ l.drop (i + 1), true, l.getD i gD) := by
  unfold W_net_Comes
  simp only [Lost_yes N l i hl h, obind_s]
  rw [Bool.not_true, cnd_f, dT (by omega), dT (by omega), Bool.and_self, cnd_t, Int.toNat_natCast]
theorem cnd_T {α : Type} {p : Prop} {i : Decidable p} {x y : α} (h : p) : cnd (@decide p i) x y = x := by rw [decide_eq_true h]; rfl
theorem cnd_F {α : Type} {p : Prop} {i : Decidable p} {x y : α} (h : ¬ p) : cnd (@decide p i) x y = y := by rw [decide_eq_false h]; rfl
theorem cnd_TT {α : Type} {p : Prop} {i : Decidable p} {x y : α} (h : p) : cnd (true && @decide p i) x y = x := by rw [decide_eq_true h]; rfl
theorem Twice_no (N : Nat) (l : List Gr) (i : Int) (hl : l.length ≤ 1000) (h : ¬ (0 ≤ i ∧ i < l.length) ∨ 60 ≤ l.length) : W_net_Twice N (l, i) = some (l, false) := by
  unfold W_net_Twice
  simp only [Clone_g N l hl, obind_s, there_eq]
  by_cases hi : 0 ≤ i ∧ i < l.length
  · rw [dT hi, Bool.not_true, cnd_f, dT (by omega), cnd_t]
  · rw [dF hi, Bool.not_false, cnd_t]
theorem Twice_yes (N : Nat) (l : List Gr) (i : Nat) (h : i < l.length) (h6 : l.length < 60) : W_net_Twice N (l, (i : Int)) = some (l ++ [l.getD i gD], true) := by
  have hs := Send_eq N l (l.getD i gD) (by omega)
  rw [if_neg (by omega)] at hs
  unfold W_net_Twice
  simp only [Clone_g N l (by omega), obind_s, there_eq]
  rw [dT ⟨by omega, by omega⟩, Bool.not_true, cnd_f, dF (by omega), cnd_f, dT (by omega), dT (by omega), Bool.and_self, cnd_t, Int.toNat_natCast]
  exact (congrArg (fun o => obind o fun b => some (b, true)) hs)
theorem wr_i32 {z : Int} (h : -2147483648 ≤ z) (h2 : z ≤ 2147483647) : wr .i32 z = z := by
  have e1 : lo .i32 = -2147483648 := by rfl
  have e2 : hi .i32 = 2147483647 := by rfl
  unfold wr
  rw [if_pos ⟨by omega, by omega⟩]
theorem putL_set {α : Type} {l : List α} {p : Nat} (v : α) (hp : p < l.length) : putL l [v] p = l.set p v := by
  unfold putL
  rw [List.set_eq_take_append_cons_drop, if_pos hp]
  rfl
theorem xor32 {a b : Int} (ha : 0 ≤ a ∧ a ≤ 255) (hb : 0 ≤ b ∧ b ≤ 255) : (((BitVec.ofInt 32 a ^^^ BitVec.ofInt 32 b).toNat : Nat) : Int) = ((a.toNat ^^^ b.toNat : Nat) : Int) := by
  rw [BitVec.toNat_xor, BitVec.toNat_ofInt, BitVec.toNat_ofInt]
  have e : ∀ v : Int, 0 ≤ v ∧ v ≤ 255 → (v % ((2 ^ 32 : Nat) : Int)).toNat = v.toNat := fun v h => by
    have : v % ((2 ^ 32 : Nat) : Int) = v := Int.emod_eq_of_lt h.1 (by omega)
    rw [this]
  rw [e a ha, e b hb]
def xb (c : UInt8) (n : Nat) : UInt8 := UInt8.ofNat (c.toNat ^^^ n)
abbrev by8 (s : List UInt8) : List Int := List.map (fun (b : UInt8) => (↑(UInt8.toNat b) : Int)) s
theorem by8_get (s : List UInt8) (p : Nat) : (by8 s).getD p 0 = ((s.getD p 0).toNat : Int) := by
  rw [List.getD_eq_getElem?_getD, List.getD_eq_getElem?_getD, List.getElem?_map]
  cases s[p]? <;> rfl
theorem turn_eq (N : Nat) (s : List UInt8) (p n : Nat) (hp : p < s.length) (hn : n ≤ 255) : W_net_turn N (s, (p : Int), (n : Int)) = some (s.set p (xb (s.getD p 0) n)) := by
  unfold W_net_turn
  have hc : (s.getD p 0).toNat < 256 := (s.getD p 0).toNat_lt
  have hx : (s.getD p 0).toNat ^^^ n < 2 ^ 8 := Nat.xor_lt_two_pow (by omega) (by omega)
  have hlen : (by8 s).length = s.length := by simp
  have e1 : wr .u8 (wr .i32 (((BitVec.ofInt 32 (wr .i32 ((by8 s).getD p 0)) ^^^ BitVec.ofInt 32 (n : Int)).toNat : Nat) : Int)) = (((s.getD p 0).toNat ^^^ n : Nat) : Int) := by
    rw [by8_get, wr_i32 (z := ((s.getD p 0).toNat : Int)) (by omega) (by omega), xor32 (by omega) (by omega), Int.toNat_natCast, Int.toNat_natCast, wr_i32 (by omega) (by omega), wr_u8 (by omega) (by omega)]
  simp only [Int.toNat_natCast]
  rw [e1]
  clear e1
  have d1 : (decide ((0 : Int) ≤ (p : Int)) && decide ((p : Int) < (((by8 s).length : Nat) : Int))) = true := by
    rw [hlen, dT (by omega), dT (by omega)]; rfl
  rw [d1, cnd_t, cnd_t, putL_set _ (by rw [hlen]; exact hp)]
  have hall : (List.all ((by8 s).set p (((s.getD p 0).toNat ^^^ n : Nat) : Int)) fun (n : Int) => decide ((0 : Int) ≤ n) && decide (n < (256 : Int))) = true := by
    rw [List.all_eq_true]
    intro x hx'
    rcases List.mem_or_eq_of_mem_set hx' with h | h
    · obtain ⟨c, _, rfl⟩ := List.mem_map.1 h
      have := c.toNat_lt
      simp only [Bool.and_eq_true, decide_eq_true_eq]; omega
    · subst h
      simp only [Bool.and_eq_true, decide_eq_true_eq]; omega
  rw [hall, cnd_t, List.map_set, List.map_map]
  have e2 : List.map ((fun (n : Int) => UInt8.ofNat (Int.toNat n)) ∘ fun (b : UInt8) => (↑(UInt8.toNat b) : Int)) s = s := by
    conv => rhs; rw [← List.map_id s]
    apply List.map_congr_left
    intro b _
    simp
  rw [e2]
  simp only [Int.toNat_natCast]
  rfl
/-- What is not turned. -/
def NoT (l : List Gr) (i to : Int) : Prop := ¬ (0 ≤ i ∧ i < l.length) ∨ (l.getD i.toNat gD).2.2 = true ∨ (l.getD i.toNat gD).2.1 = [] ∨ to < 0 ∨ Int.tmod to 256 = 0
/-- A datagram with bits of one of its bytes turned. -/
def tg (g : Gr) (to : Int) : Gr := (g.1, g.2.1.set ((to / 256).toNat % g.2.1.length) (xb (g.2.1.getD ((to / 256).toNat % g.2.1.length) 0) (to % 256).toNat), true)
theorem Turned_no (N : Nat) (l : List Gr) (i to : Int) (hl : l.length ≤ 1000) (h : NoT l i to) : W_net_Turned N (l, i, to) = some (l, false) := by
  unfold W_net_Turned
  simp only [Clone_g N l hl, obind_s, there_eq]
  by_cases hi : 0 ≤ i ∧ i < l.length
  case neg =>
    rw [dF hi, Bool.not_false, cnd_t, obind_s, cnd_t, obind_s, cnd_t, obind_s, cnd_t]
  rw [dT hi, Bool.not_true, cnd_f, dT hi.1, dT hi.2, Bool.and_self]
  simp only [cnd_t, obind_s]
  generalize hg : l.getD i.toNat gD = g at *
  obtain ⟨a, s, t⟩ := g
  have hg' : l.getD i.toNat ((0 : Int), [], false) = (a, s, t) := hg
  simp only [hg']
  by_cases ht : t = true
  · subst ht
    simp only [cnd_t, obind_s]
  have ht : t = false := by simpa using ht
  subst ht
  simp only [cnd_f, obind_s]
  by_cases hs : s = []
  · subst hs
    rw [dT (show ((List.length ([] : List UInt8) : Nat) : Int) = 0 from rfl)]
    simp only [cnd_t, obind_s]
  have hsl : ¬ ((s.length : Nat) : Int) = 0 := fun e => hs (List.eq_nil_of_length_eq_zero (by omega))
  rw [dF hsl]
  simp only [cnd_f, obind_s]
  by_cases h0 : to < 0
  · rw [dT h0, cnd_t]
  rw [dF h0, cnd_f]
  unfold NoT at h
  rw [hg] at h
  have h256 : Int.tmod to 256 = 0 := by
    rcases h with q | q | q | q | q
    · exact absurd hi q
    · cases q
    · exact absurd q hs
    · exact absurd q h0
    · exact q
  rw [dT h256, cnd_t]
theorem Turned_yes (N : Nat) (l : List Gr) (i : Int) (to : Int) (hl : l.length ≤ 1000) (hto : to ≤ 9223372036854775807) (h : ¬ NoT l i to) : W_net_Turned N (l, i, to) = some (l.set i.toNat (tg (l.getD i.toNat gD) to), true) := by
  unfold W_net_Turned
  unfold NoT at h
  have hi : (0 : Int) ≤ i ∧ i < l.length := Classical.byContradiction fun q => h (.inl q)
  have hil : i.toNat < l.length := by omega
  simp only [Clone_g N l hl, obind_s, there_eq]
  rw [dT hi, Bool.not_true, cnd_f, dT hi.1, dT hi.2, Bool.and_self]
  simp only [cnd_t, obind_s]
  unfold tg
  generalize hg : l.getD i.toNat gD = g at *
  obtain ⟨a, s, t⟩ := g
  have hg' : l.getD i.toNat ((0 : Int), [], false) = (a, s, t) := hg
  simp only [hg']
  simp only at h
  have ht : t = false := by
    cases t
    · rfl
    · exact absurd (.inr (.inl rfl)) h
  subst ht
  have hs : s ≠ [] := fun q => h (.inr (.inr (.inl q)))
  have h0 : ¬ to < 0 := fun q => h (.inr (.inr (.inr (.inl q))))
  have h256 : ¬ Int.tmod to 256 = 0 := fun q => h (.inr (.inr (.inr (.inr q))))
  clear h
  have hsl : ¬ ((s.length : Nat) : Int) = 0 := fun e => hs (List.eq_nil_of_length_eq_zero (by omega))
  have hsp : 0 < s.length := by omega
  simp only [cnd_f, obind_s]
  rw [dF hsl]
  simp only [cnd_f, obind_s]
  rw [dF h0, cnd_f, dF h256, cnd_f, Bool.not_false, cnd_t]
  have w1 : Int.tmod (wr .i64 (Int.tdiv to 256)) (s.length : Int) = (((to / 256).toNat % s.length : Nat) : Int) := by
    rw [Int.tdiv_eq_ediv_of_nonneg (by omega), wr_i64 (by omega) (by omega), Int.tmod_eq_emod_of_nonneg (by omega)]
    rw [Int.natCast_emod, Int.toNat_of_nonneg (by omega)]
  have w2 : wr .i32 (Int.tmod to 256) = (((to % 256).toNat : Nat) : Int) := by
    rw [Int.tmod_eq_emod_of_nonneg (by omega), wr_i32 (by omega) (by omega)]; omega
  have hp : (to / 256).toNat % s.length < s.length := Nat.mod_lt _ hsp
  rw [w1, w2, turn_eq N s _ _ hp (by omega), obind_s]
  clear w1 w2
  generalize s.set ((to / 256).toNat % s.length) (xb (s.getD ((to / 256).toNat % s.length) 0) (to % 256).toNat) = s'
  have e1 : ∀ v : Gr, putL l [v] i.toNat = l.set i.toNat v := fun v => putL_set v hil
  have e2 : ∀ v w : Gr, putL (l.set i.toNat v) [w] i.toNat = l.set i.toNat w := fun v w => by rw [putL_set w (by simpa using hil), List.set_set]
  have e3 : ∀ v : Gr, (l.set i.toNat v).getD i.toNat ((0 : Int), [], false) = v := fun v => by rw [List.getD_eq_getElem?_getD, List.getElem?_set, if_pos rfl, if_pos hil]; rfl
  have e4 : ∀ v : Gr, (putL l [v] i.toNat).length = l.length := fun v => by rw [e1, List.length_set]
  refine (cnd_TT hi.2).trans ((cnd_TT ?_).trans ?_)
  · rw [e4]; exact hi.2
  · simp only [hg', e1, e2, e3]
theorem rSend_eq (N : Nat) (l : List Gr) (g : Gr) (hl : l.length ≤ 1000) : W_ref13_Send N (l, g) = some (if 60 ≤ l.length then l else l ++ [g]) := by
  unfold W_ref13_Send
  simp only
  rw [dT (show List.length l * 32 ≤ 140737488355328 by omega), cnd_t]
  by_cases h : 60 ≤ l.length
  · rw [dF (by omega), cnd_f, if_pos h]
  · rw [dT (by omega), cnd_t, dT (by simp only [List.length_singleton]; omega), cnd_t, if_neg h]
theorem Gone_no (N : Nat) (l : List Gr) (i : Int) (h : ¬ (0 ≤ i ∧ i < l.length)) : W_ref13_Gone N (l, i) = some (l, false, gD) := by
  unfold W_ref13_Gone
  simp only
  by_cases h0 : i < 0
  · rw [dT h0, cnd_t]
  rw [dF h0, cnd_f, dT (by omega), cnd_t]
theorem Gone_yes (N : Nat) (l : List Gr) (i : Nat) (hl : l.length ≤ 1000) (h : i < l.length) : W_ref13_Gone N (l, (i : Int)) = some (l.take i ++ l.drop (i + 1), true, l.getD i gD) := by
  unfold W_ref13_Gone
  simp only
  have w : wr .i64 ((i : Int) + 1) = ((i + 1 : Nat) : Int) := by rw [wr_m (by omega) (by omega)]; omega
  have hl1 : (List.drop 0 (List.take i l)).length ≤ 1000 := by simp; omega
  have hl2 : (List.drop (i + 1) (List.take l.length l)).length ≤ 1000 := by simp; omega
  have d1 : ((i + 1 : Nat) : Int) ≤ l.length := by omega
  rw [dF (by omega), cnd_f, dF (by omega), cnd_f, w]
  clear w
  rw [dT (Int.natCast_nonneg i), dT (show (i : Int) ≤ l.length by omega), Bool.and_self, cnd_t, Int.toNat_natCast, Int.toNat_natCast, dT (show _ * 32 ≤ 140737488355328 by omega), cnd_t, dT (Int.natCast_nonneg _), dT d1, Bool.and_self, cnd_t, dT (show (_ + _) * 32 ≤ 140737488355328 by omega), cnd_t, dT (show (i : Int) < l.length by omega), Bool.and_self, cnd_t, List.take_length, List.drop_zero]
theorem rTwice_no (N : Nat) (l : List Gr) (i : Int) (h : ¬ (0 ≤ i ∧ i < l.length) ∨ 60 ≤ l.length) : W_ref13_Twice N (l, i) = some (l, false) := by
  unfold W_ref13_Twice
  simp only
  by_cases h0 : i < 0
  · rw [dT h0, cnd_t, obind_s, cnd_t]
  rw [dF h0, cnd_f, obind_s]
  by_cases h1 : (l.length : Int) ≤ i
  · rw [dT h1, cnd_t]
  rw [dF h1, cnd_f, dT (by omega), cnd_t]
theorem rTwice_yes (N : Nat) (l : List Gr) (i : Nat) (h : i < l.length) (h6 : l.length < 60) : W_ref13_Twice N (l, (i : Int)) = some (l ++ [l.getD i gD], true) := by
  have hs := rSend_eq N l (l.getD i gD) (by omega)
  rw [if_neg (by omega)] at hs
  unfold W_ref13_Twice
  simp only
  rw [dF (by omega), cnd_f, obind_s, dF (by omega), cnd_f, dF (by omega), cnd_f, dT (by omega), dT (by omega), Bool.and_self, cnd_t, Int.toNat_natCast]
  exact (congrArg (fun o => obind o fun b => some (b, true)) hs)
theorem xor8 {a b : Int} (ha : 0 ≤ a ∧ a ≤ 255) (hb : 0 ≤ b ∧ b ≤ 255) : (((BitVec.ofInt 8 a ^^^ BitVec.ofInt 8 b).toNat : Nat) : Int) = ((a.toNat ^^^ b.toNat : Nat) : Int) := by
  rw [BitVec.toNat_xor, BitVec.toNat_ofInt, BitVec.toNat_ofInt]
  have e : ∀ v : Int, 0 ≤ v ∧ v ≤ 255 → (v % ((2 ^ 8 : Nat) : Int)).toNat = v.toNat := fun v h => by
    have : v % ((2 ^ 8 : Nat) : Int) = v := Int.emod_eq_of_lt h.1 (by omega)
    rw [this]
  rw [e a ha, e b hb]
theorem set_by8 (s : List UInt8) (p n : Nat) : List.map (fun (n : Int) => UInt8.ofNat (Int.toNat n)) ((by8 s).set p (((s.getD p 0).toNat ^^^ n : Nat) : Int)) = s.set p (xb (s.getD p 0) n) := by
  rw [List.map_set, List.map_map]
  have e2 : List.map ((fun (n : Int) => UInt8.ofNat (Int.toNat n)) ∘ fun (b : UInt8) => (↑(UInt8.toNat b) : Int)) s = s := by
    conv => rhs; rw [← List.map_id s]
    apply List.map_congr_left
    intro b _
    simp
  rw [e2]
  simp only [Int.toNat_natCast]
  rfl
theorem all_by8 (s : List UInt8) (p n : Nat) (hn : n ≤ 255) : (List.all ((by8 s).set p (((s.getD p 0).toNat ^^^ n : Nat) : Int)) fun (n : Int) => decide ((0 : Int) ≤ n) && decide (n < (256 : Int))) = true := by
  have hc : (s.getD p 0).toNat < 256 := (s.getD p 0).toNat_lt
  have hx : (s.getD p 0).toNat ^^^ n < 2 ^ 8 := Nat.xor_lt_two_pow (by omega) (by omega)
  rw [List.all_eq_true]
  intro x hx'
  rcases List.mem_or_eq_of_mem_set hx' with h | h
  · obtain ⟨c, _, rfl⟩ := List.mem_map.1 h
    have := c.toNat_lt
    simp only [Bool.and_eq_true, decide_eq_true_eq]; omega
  · subst h
    simp only [Bool.and_eq_true, decide_eq_true_eq]; omega
theorem rTurned_no (N : Nat) (l : List Gr) (i to : Int) (h : NoT l i to) : W_ref13_Turned N (l, i, to) = some (l, false) := by
  unfold W_ref13_Turned
  simp only
  by_cases h0 : i < 0
  · rw [dT h0]; simp only [cnd_t, obind_s]
  rw [dF h0]
  simp only [cnd_f, obind_s]
  by_cases h1 : (l.length : Int) ≤ i
  · rw [dT h1]; simp only [cnd_t, obind_s]
  have hi : 0 ≤ i ∧ i < l.length := by omega
  rw [dF h1, dT hi.1, dT hi.2, Bool.and_self]
  simp only [cnd_t, cnd_f, obind_s]
  generalize hg : l.getD i.toNat gD = g at *
  obtain ⟨a, s, t⟩ := g
  have hg' : l.getD i.toNat ((0 : Int), [], false) = (a, s, t) := hg
  simp only [hg']
  by_cases ht : t = true
  · subst ht
    simp only [cnd_t, obind_s]
  have ht : t = false := by simpa using ht
  subst ht
  simp only [cnd_f, obind_s]
  by_cases hs : s = []
  · subst hs
    rw [dT (show ((List.length ([] : List UInt8) : Nat) : Int) = 0 from rfl)]
    simp only [cnd_t, obind_s]
  have hsl : ¬ ((s.length : Nat) : Int) = 0 := fun e => hs (List.eq_nil_of_length_eq_zero (by omega))
  rw [dF hsl]
  simp only [cnd_f, obind_s]
  by_cases h0 : to < 0
  · rw [dT h0, cnd_t]
  rw [dF h0, cnd_f]
  unfold NoT at h
  rw [hg] at h
  have h256 : Int.tmod to 256 = 0 := by
    rcases h with q | q | q | q | q
    · exact absurd hi q
    · cases q
    · exact absurd q hs
    · exact absurd q h0
    · exact q
  rw [dT h256, cnd_t]
theorem rTurned_yes (N : Nat) (l : List Gr) (i : Int) (to : Int) (hl : l.length ≤ 1000) (hto : to ≤ 9223372036854775807) (h : ¬ NoT l i to) : W_ref13_Turned N (l, i, to) = some (l.set i.toNat (tg (l.getD i.toNat gD) to), true) := by
  unfold W_ref13_Turned
  unfold NoT at h
  have hi : (0 : Int) ≤ i ∧ i < l.length := Classical.byContradiction fun q => h (.inl q)
  have hil : i.toNat < l.length := by omega
  simp only
  rw [dF (show ¬ i < 0 by omega)]
  simp only [cnd_f, obind_s]
  rw [dF (show ¬ (l.length : Int) ≤ i by omega), dT hi.1, dT hi.2, Bool.and_self]
  simp only [cnd_t, cnd_f, obind_s]
  unfold tg
  generalize hg : l.getD i.toNat gD = g at *
  obtain ⟨a, s, t⟩ := g
  have hg' : l.getD i.toNat ((0 : Int), [], false) = (a, s, t) := hg
  simp only [hg']
  simp only at h
  have ht : t = false := by
    cases t
    · rfl
    · exact absurd (.inr (.inl rfl)) h
  subst ht
  have hs : s ≠ [] := fun q => h (.inr (.inr (.inl q)))
  have h0 : ¬ to < 0 := fun q => h (.inr (.inr (.inr (.inl q))))
  have h256 : ¬ Int.tmod to 256 = 0 := fun q => h (.inr (.inr (.inr (.inr q))))
  clear h
  have hsl : ¬ ((s.length : Nat) : Int) = 0 := fun e => hs (List.eq_nil_of_length_eq_zero (by omega))
  have hsp : 0 < s.length := by omega
  have hbl : (by8 s).length = s.length := by simp
  simp only [cnd_f, obind_s]
  rw [dF hsl]
  simp only [cnd_f, obind_s]
  rw [dF h0, cnd_f, dF h256, cnd_f, dT (show List.length l * 32 ≤ 140737488355328 by omega), cnd_t]
  have w1 : Int.tmod (wr .i64 (Int.tdiv to 256)) (((by8 s).length : Nat) : Int) = (((to / 256).toNat % s.length : Nat) : Int) := by
    rw [hbl, Int.tdiv_eq_ediv_of_nonneg (by omega), wr_i64 (by omega) (by omega), Int.tmod_eq_emod_of_nonneg (by omega)]
    rw [Int.natCast_emod, Int.toNat_of_nonneg (by omega)]
  have w2 : wr .u8 (Int.tmod to 256) = (((to % 256).toNat : Nat) : Int) := by
    rw [Int.tmod_eq_emod_of_nonneg (by omega), wr_u8 (by omega) (by omega)]; omega
  have hn : (to % 256).toNat ≤ 255 := by omega
  have hp : (to / 256).toNat % s.length < s.length := Nat.mod_lt _ hsp
  have hbz : ¬ (((by8 s).length : Nat) : Int) = 0 := by rw [hbl]; exact hsl
  rw [dF hbz, Bool.not_false, cnd_t, w1, w2]
  clear w1 w2 hbz
  generalize (to / 256).toNat % s.length = p at *
  generalize (to % 256).toNat = n at *
  have hpb : ((p : Nat) : Int) < (((by8 s).length : Nat) : Int) := by rw [hbl]; omega
  have hc : (s.getD p 0).toNat < 256 := (s.getD p 0).toNat_lt
  have hx : (s.getD p 0).toNat ^^^ n < 2 ^ 8 := Nat.xor_lt_two_pow (by omega) (by omega)
  have e1 : wr .u8 (((BitVec.ofInt 8 ((by8 s).getD p 0) ^^^ BitVec.ofInt 8 (n : Int)).toNat : Nat) : Int) = (((s.getD p 0).toNat ^^^ n : Nat) : Int) := by
    rw [by8_get, xor8 (by omega) (by omega), Int.toNat_natCast, Int.toNat_natCast, wr_u8 (by omega) (by omega)]
  rw [dT (Int.natCast_nonneg p), dT hpb, Bool.and_self, cnd_t, cnd_t, Int.toNat_natCast, e1, putL_set _ (by rw [hbl]; exact hp), all_by8 s p n hn, cnd_t, set_by8]
  clear e1
  generalize s.set p (xb (s.getD p 0) n) = s'
  have e1 : ∀ v : Gr, putL l [v] i.toNat = l.set i.toNat v := fun v => putL_set v hil
  have e2 : ∀ v w : Gr, putL (l.set i.toNat v) [w] i.toNat = l.set i.toNat w := fun v w => by rw [putL_set w (by simpa using hil), List.set_set]
  have e3 : ∀ v : Gr, (l.set i.toNat v).getD i.toNat ((0 : Int), [], false) = v := fun v => by rw [List.getD_eq_getElem?_getD, List.getElem?_set, if_pos rfl, if_pos hil]; rfl
  have e4 : ∀ v : Gr, (putL l [v] i.toNat).length = l.length := fun v => by rw [e1, List.length_set]
  refine (cnd_TT ?_).trans ?_
  · rw [e4]; exact hi.2
  · simp only [e1, e2, e3]
theorem SameG (N : Nat) (l : List Gr) (hN : l.length < N) (hl : l.length ≤ 1000) : W_ref13_SameGrams N (l, l) = some true := by
  unfold W_ref13_SameGrams
  simp only
  rw [dF (by simp), cnd_f]
  refine obind_loop (fun v : Int => 0 ≤ v ∧ v ≤ l.length) (fun v => l.length - v.toNat) (fun r : PUnit ⊕ Bool => r = .inl ()) ⟨by simp, by simp⟩ (by simp; omega) ?_ ?_
  · rintro r rfl; rw [selim_l]
  · rintro v ⟨g1, g2⟩
    by_cases h : v < l.length
    case neg => right; rw [dF h, cnd_f]; exact ⟨_, rfl, rfl⟩
    left
    rw [dT h, cnd_t, dT g1, Bool.and_self, cnd_t, cnd_t, dT trivial, BEq.rfl, BEq.rfl, Bool.and_self, Bool.and_self, Bool.not_true, cnd_f, wr_m (by omega) (by omega)]
    exact ⟨_, rfl, ⟨by omega, by omega⟩, by omega⟩
theorem wr_u8m {z : Int} : wr .u8 z = z % 256 := by rw [wr_eq]; simp [IntKind.wrap, IntKind.bits, IntKind.signed]
theorem u8r (z : Int) : 0 ≤ wr .u8 z ∧ wr .u8 z ≤ 255 := by rw [wr_u8m]; omega
theorem step_suff {α σ ρ γ δ : Type} {m : Option α} {K : α → Option (σ ⊕ ρ)} {C : σ → Prop} (Q : γ → δ → Prop) (A : γ → δ → α) (R : γ → δ → σ) (h1 : ∃ f s, m = some (A f s) ∧ Q f s) (h2 : ∀ f s, Q f s → K (A f s) = some (.inl (R f s)) ∧ C (R f s)) : ∃ y, obind m K = some (.inl y) ∧ C y := by
  obtain ⟨f, s, e1, e2⟩ := h1
  obtain ⟨e3, e4⟩ := h2 f s e2
  exact ⟨R f s, by rw [e1, obind_s, e3], e4⟩
theorem law_aux (N : Nat) (hN : 1000 ≤ N) (x : List (Int × Int × Int × Int)) (wild m0 : Int) (m1 : List UInt8) (m2 : Bool) (hw : wild ≤ 9223372036854775807) (hx : ∀ j : Nat, (0 ≤ (x.getD j (0, 0, 0, 0)).1 ∧ (x.getD j (0, 0, 0, 0)).1 ≤ 255) ∧ (0 ≤ (x.getD j (0, 0, 0, 0)).2.1 ∧ (x.getD j (0, 0, 0, 0)).2.1 ≤ 255) ∧ (0 ≤ (x.getD j (0, 0, 0, 0)).2.2.1 ∧ (x.getD j (0, 0, 0, 0)).2.2.1 ≤ 255) ∧ 0 ≤ (x.getD j (0, 0, 0, 0)).2.2.2 ∧ (x.getD j (0, 0, 0, 0)).2.2.2 ≤ 255) : W_law13_NetAll N (x, wild, m0, m1, m2) = some true := by
  unfold W_law13_NetAll
  simp only
  by_cases c1 : (80 : Int) < x.length
  · rw [dT c1, cnd_t]
  rw [dF c1, cnd_f]
  by_cases c2 : (40 : Int) < m1.length
  · rw [dT c2, cnd_t]
  rw [dF c2, cnd_f]
  refine obind_loop (fun v : List Gr × List Gr × Int × Int × List UInt8 × Bool => ∃ i : Nat, v.2.2.1 = i ∧ i ≤ x.length ∧ v.2.1 = v.1 ∧ v.1.length ≤ 60 ∧ v.2.2.2 = (m0, m1, m2)) (fun v => x.length - v.2.2.1.toNat) (fun r : PUnit ⊕ Bool => r = .inl ()) ⟨0, rfl, by omega, rfl, by simp, rfl⟩ (by show x.length - Int.toNat 0 < N; omega) ?_ ?_
  · rintro r rfl; rw [selim_l]
  rintro ⟨f, b, v, mm⟩ ⟨i, hi, hil, hb, hf, hm⟩
  simp only at hi hb hf hm ⊢
  subst hi hm
  replace hb := hb.symm
  subst hb
  by_cases hlt : (i : Int) < x.length
  case neg => right; rw [dF hlt, cnd_f]; exact ⟨_, rfl, rfl⟩
  left
  rw [dT hlt, cnd_t, dT (Int.natCast_nonneg i), Bool.and_self, cnd_t, cnd_t, Int.toNat_natCast]
  simp only [cnd_t]
  have hq := hx i
  generalize x.getD i (0, 0, 0, 0) = q at *
  obtain ⟨q0, q1, q2, q3⟩ := q
  obtain ⟨r0, r1, r2, r3⟩ := hq
  simp only at r0 r1 r2 r3 ⊢
  have hn : ∃ n : Int, cnd (decide (Int.tmod q3 16 = 0)) (some (wild, m0, m1, m2)) (some (Int.tmod (wr .i64 q1) 70, m0, m1, m2)) = some (n, m0, m1, m2) := by
    by_cases h : Int.tmod q3 16 = 0
    · rw [dT h, cnd_t]; exact ⟨_, rfl⟩
    · rw [dF h, cnd_f]; exact ⟨_, rfl⟩
  obtain ⟨n, hn⟩ := hn
  rw [hn, obind_s]
  simp only
  clear hn
  refine step_suff (fun (f' : List Gr) (_ : Bool) => f'.length ≤ 60) (fun f' p => .inl (f', f', p, p, m0, m1, m2)) (fun f' _ => (f', f', (i : Int) + 1, m0, m1, m2)) ?_ ?_
  · have hA : ∀ t : Int, cnd (decide (t = 0)) (some (decide (t = 0), m0, m1, m2)) (cnd (decide (t = 1)) (some (decide (t = 1), m0, m1, m2)) (cnd (decide (t = 2)) (some (decide (t = 2), m0, m1, m2)) (some (decide (t = 3), m0, m1, m2)))) = some (decide (t = 0 ∨ t = 1 ∨ t = 2 ∨ t = 3), m0, m1, m2) := fun t => by
      by_cases h0 : t = 0
      · rw [dT h0, cnd_t, dT (.inl h0)]
      rw [dF h0, cnd_f]
      by_cases h1 : t = 1
      · rw [dT h1, cnd_t, dT (.inr (.inl h1))]
      rw [dF h1, cnd_f]
      by_cases h2 : t = 2
      · rw [dT h2, cnd_t, dT (.inr (.inr (.inl h2)))]
      rw [dF h2, cnd_f]
      by_cases h3 : t = 3
      · rw [dT h3, dT (.inr (.inr (.inr h3)))]
      · rw [dF h3, dF (fun q => by omega)]
    rw [hA, obind_s]
    simp only
    by_cases hsend : Int.tmod q0 9 = 0 ∨ Int.tmod q0 9 = 1 ∨ Int.tmod q0 9 = 2 ∨ Int.tmod q0 9 = 3
    · rw [dT hsend, cnd_t]
      have hb1 := u8r (97 + Int.tmod q3 26)
      generalize wr .u8 (97 + Int.tmod q3 26) = b1 at *
      have hall : List.all [b1, (122 : Int)] (fun (n : Int) => decide ((0 : Int) ≤ n) && decide (n < (256 : Int))) = true := by
        simp only [List.all_cons, List.all_nil, Bool.and_true, Bool.and_eq_true, decide_eq_true_eq]; omega
      rw [hall, cnd_t]
      have hg : ∃ g : Gr, cnd (decide (Int.tmod q2 8 = 0)) (some ((m0, m1, m2), m0, m1, m2)) (some ((m0, m1, m2), wr .i64 (1 + wr .i64 (Int.tmod q2 8)), bytesI [b1, (122 : Int)], false)) = some ((m0, m1, m2), g) := by
        by_cases h : Int.tmod q2 8 = 0
        · rw [dT h, cnd_t]; exact ⟨_, rfl⟩
        · rw [dF h, cnd_f]; exact ⟨_, rfl⟩
      obtain ⟨g, hg⟩ := hg
      rw [hg, obind_s]
      have s1 : W_net_Send N (f, g.1, g.2.1, g.2.2) = _ := Send_eq N f g (by omega)
      have s2 : W_ref13_Send N (f, g.1, g.2.1, g.2.2) = _ := rSend_eq N f g (by omega)
      rw [s1, obind_s, s2, obind_s]
      refine ⟨_, false, rfl, ?_⟩
      split
      · exact hf
      · simp only [List.length_append, List.length_singleton]; omega
    rw [dF hsend, cnd_f]
    by_cases h4 : Int.tmod q0 9 = 4
    · rw [dT h4, cnd_t]
      generalize Int.tmod n 9 = k
      by_cases hk : 0 ≤ k ∧ k < f.length
      · obtain ⟨j, rfl⟩ : ∃ j : Nat, k = j := ⟨k.toNat, by omega⟩
        rw [Comes_yes N f j (by omega) (by omega), obind_s, Gone_yes N f j (by omega) (by omega), obind_s]
        simp only [BEq.rfl, decide_true, Bool.and_self, Bool.not_true, cnd_f]
        exact ⟨_, true, rfl, by simp only [List.length_append, List.length_take, List.length_drop]; omega⟩
      · rw [Comes_no N f k (by omega) hk, obind_s, Gone_no N f k hk, obind_s]
        simp only [BEq.rfl, decide_true, Bool.and_self, Bool.not_true, cnd_f]
        exact ⟨_, false, rfl, hf⟩
    rw [dF h4, cnd_f]
    by_cases h5 : Int.tmod q0 9 = 5
    · rw [dT h5, cnd_t]
      by_cases hk : 0 ≤ n ∧ n < f.length
      · obtain ⟨j, rfl⟩ : ∃ j : Nat, n = j := ⟨n.toNat, by omega⟩
        rw [Lost_yes N f j (by omega) (by omega), obind_s, Gone_yes N f j (by omega) (by omega), obind_s]
        exact ⟨_, true, rfl, by simp only [List.length_append, List.length_take, List.length_drop]; omega⟩
      · rw [Lost_no N f n (by omega) hk, obind_s, Gone_no N f n hk, obind_s]
        exact ⟨_, false, rfl, hf⟩
    rw [dF h5, cnd_f]
    have hB : ∀ t : Int, cnd (decide (t = 6)) (some (decide (t = 6), m0, m1, m2)) (some (decide (t = 7), m0, m1, m2)) = some (decide (t = 6 ∨ t = 7), m0, m1, m2) := fun t => by
      by_cases h6 : t = 6
      · rw [dT h6, cnd_t, dT (.inl h6)]
      rw [dF h6, cnd_f]
      by_cases h7 : t = 7
      · rw [dT h7, dT (.inr h7)]
      · rw [dF h7, dF (fun q => by omega)]
    rw [hB, obind_s]
    simp only
    generalize Int.tmod n 20 = k
    by_cases h67 : Int.tmod q0 9 = 6 ∨ Int.tmod q0 9 = 7
    · rw [dT h67, cnd_t]
      by_cases hk : (0 ≤ k ∧ k < f.length) ∧ f.length < 60
      · obtain ⟨j, rfl⟩ : ∃ j : Nat, k = j := ⟨k.toNat, by omega⟩
        rw [Twice_yes N f j (by omega) hk.2, obind_s, rTwice_yes N f j (by omega) hk.2, obind_s]
        exact ⟨_, true, rfl, by simp only [List.length_append, List.length_singleton]; omega⟩
      · rw [Twice_no N f k (by omega) (by omega), obind_s, rTwice_no N f k (by omega), obind_s]
        exact ⟨_, false, rfl, hf⟩
    rw [dF h67, cnd_f]
    have ht : ∃ to : Int, to ≤ 9223372036854775807 ∧ cnd (decide (Int.tmod q2 16 = 1)) (some (wild, m0, m1, m2)) (some (wr .i64 (wr .i64 (wr .i64 q2 * 256) + wr .i64 q3), m0, m1, m2)) = some (to, m0, m1, m2) := by
      by_cases h : Int.tmod q2 16 = 1
      · rw [dT h, cnd_t]; exact ⟨_, hw, rfl⟩
      · rw [dF h, cnd_f, wr_m (z := q2) (by omega) (by omega), wr_m (z := q2 * 256) (by omega) (by omega), wr_m (z := q3) (by omega) (by omega), wr_m (by omega) (by omega)]
        exact ⟨_, by omega, rfl⟩
    obtain ⟨to, hto, ht⟩ := ht
    rw [ht, obind_s]
    simp only
    by_cases hno : NoT f k to
    · rw [Turned_no N f k to (by omega) hno, obind_s, rTurned_no N f k to hno, obind_s]
      exact ⟨_, false, rfl, hf⟩
    · rw [Turned_yes N f k to (by omega) hto hno, obind_s, rTurned_yes N f k to (by omega) hto hno, obind_s]
      exact ⟨_, true, rfl, by rw [List.length_set]; exact hf⟩
  · intro f' p hf'
    refine ⟨?_, ⟨i + 1, (Int.natCast_succ i).symm, by omega, rfl, hf', rfl⟩, by show x.length - ((i : Int) + 1).toNat < x.length - (i : Int).toNat; omega⟩
    rw [selim_l]
    simp only
    rw [BEq.rfl, Bool.not_true, cnd_f, SameG N f' (by omega) (by omega), obind_s, Bool.not_true, cnd_f, wr_m (by omega) (by omega)]
def NN : Nat := 1000
theorem law_true (y0 : List (Int × Int × Int × Int)) (y1 : Int) (y2 : Int × (List UInt8) × Bool) (h0 : Twf (.list (.agg (.pair (.int .u8) (.pair (.int .u8) (.pair (.int .u8) (.int .u8)))))) y0) (h1 : Twf (.int .i64) y1) (h2 : Twf (.agg (.pair (.int .i64) (.pair .str .bool))) y2) : W_law13_NetAll NN (y0, y1, y2) = some true := by
  obtain ⟨m0, m1, m2⟩ := y2
  refine law_aux NN (Nat.le_refl _) y0 y1 m0 m1 m2 h1.2 (fun j => ?_)
  rw [List.getD_eq_getElem?_getD]
  by_cases hj : j < y0.length
  · rw [List.getElem?_eq_getElem hj]
    exact h0.2 _ (List.getElem_mem hj)
  · rw [List.getElem?_eq_none (by omega)]; simp

theorem spec (y0 : List (Int × Int × Int × Int)) (y1 : Int) (y2 : Int × (List UInt8) × Bool) (h0 : Twf (.list (.agg (.pair (.int .u8) (.pair (.int .u8) (.pair (.int .u8) (.int .u8)))))) y0) (h1 : Twf (.int .i64) y1) (h2 : Twf (.agg (.pair (.int .i64) (.pair .str .bool))) y2) : Spec2 P0 7 [valW (.list (.agg (.pair (.int .u8) (.pair (.int .u8) (.pair (.int .u8) (.int .u8)))))) y0, valW (.int .i64) y1, valW (.agg (.pair (.int .i64) (.pair .str .bool))) y2] [] (.bs true) [] [] := (con_law13_NetAll_ok NN).2 (y0, y1, y2) true (law_true y0 y1 y2 h0 h1 h2)
theorem lifted (os : Os) (started : os.Started) (H : Type) (enc : TypeId × Value → H) :
    ReturnsInHanded {} Try.checked os 7 .any (Rows.netAllSpec.pre6 enc Try.prog Try.f7 Rows.netAllRow.domain false) (Rows.netAllSpec.post enc Try.prog Try.f7 false true false false) := by
  refine returnsInHanded_of_change (C := Try.checked) own started (by kernel_rfl) Try.func7
    (ChangeSpec.witness6 (enc := enc) (C := Try.checked) false ⟨#[], #[.slice none 0 0, .int .i64 0, .agg #[.int .i64 0, .string ⟨#[]⟩, .bool false]], []⟩ 8 (by kernel_rfl) (by kernel_rfl) (by kernel_rfl) (by kernel_rfl)) ?_
  intro W base args ds gs before hval0 hW hcnd _
  have hval : ∀ (j : Nat) t v, Try.f7.params[j]? = some t → args[j]? = some v → Value.okWide Try.prog W .any base t v := hval0
  have hW' := hW
  obtain ⟨p, q, hA0, hV, rfl, hfz, hnd⟩ := hW
  have hA : DataW.TrodAll enc Try.prog W 0 (fun _ => true) true Try.f7.params.toList args.toList ds p := hA0
  rw [Try.params7] at hA hval
  obtain ⟨v0, vs0, d0, ds0, p0, q0, hargs, rfl, rfl, h0, r0⟩ := trodAll_cons hA
  obtain ⟨v1, vs1, d1, ds1, p1, q1, rfl, rfl, rfl, h1, r1⟩ := trodAll_cons r0
  obtain ⟨v2, vs2, d2, ds2, p2, q2, rfl, rfl, rfl, h2, r2⟩ := trodAll_cons r1
  obtain ⟨rfl, rfl, rfl⟩ := trodAll_nil r2
  obtain rfl : args = #[v0, v1, v2] := by cases args; simp_all
  obtain ⟨rfl, rfl⟩ := trodVars_none hV
  have k0 := h0
  have lt0 : ∀ x ∈ p0, x.block < W.heap.size := by obtain ⟨m, hm⟩ := k0; exact DataW.trod_lt m _ _ _ hm
  obtain ⟨y0, rp0, wf0⟩ := arg_ok (n := 12) (ty := (.list (.agg (.pair (.int .u8) (.pair (.int .u8) (.pair (.int .u8) (.int .u8))))))) (by kernel_rfl) (hval 0 _ v0 rfl rfl) h0
  have k1 := h1
  have lt1 : ∀ x ∈ p1, x.block < W.heap.size := by obtain ⟨m, hm⟩ := k1; exact DataW.trod_lt m _ _ _ hm
  obtain ⟨y1, rp1, wf1⟩ := arg_ok (n := 12) (ty := (.int .i64)) (by kernel_rfl) (hval 1 _ v1 rfl rfl) h1
  have k2 := h2
  have lt2 : ∀ x ∈ p2, x.block < W.heap.size := by obtain ⟨m, hm⟩ := k2; exact DataW.trod_lt m _ _ _ hm
  obtain ⟨y2, rp2, wf2⟩ := arg_ok (n := 12) (ty := (.agg (.pair (.int .i64) (.pair .str .bool)))) (by kernel_rfl) (hval 2 _ v2 rfl rfl) h2
  clear hA0 hval0
  refine (law_of2 (spec y0 y1 y2 wf0 wf1 wf2) W #[v0, v1, v2] (.cons rp0 (.cons rp1 (.cons rp2 .nil)))).mono fun e W' ⟨he, bel⟩ => ?_
  subst he
  exact ⟨_, rfl, _, _, _, [], _, [], hW', trodAll_mk1 (shut_bool Try.underlying4 _), (trodAll_cons_mk (Below.trod laidOut (by kernel_rfl) (of_decide_eq_true (by kernel_rfl)) k0 bel lt0) (trodAll_cons_mk (Below.trod laidOut (by kernel_rfl) (of_decide_eq_true (by kernel_rfl)) k1 bel lt1) (trodAll_cons_mk (Below.trod laidOut (by kernel_rfl) (of_decide_eq_true (by kernel_rfl)) k2 bel lt2) trodAll_mk0))), rfl, bel.frame _, fun h => by cases h⟩

theorem over : Rows.netAllRow.holds Try.pinned (OpenSpec.ofChange Rows.netAllSpec) :=
  OpenClaim.holds_of_wide 7 Try.f7 rfl rfl rfl rfl rfl rfl rfl ⟨rfl, rfl, rfl, rfl, rfl⟩ rfl rfl rfl rfl rfl (by kernel_rfl) Try.func7 (by kernel_rfl)
    (of_decide_eq_true (by kernel_rfl)) (by unfold Func.isWrapper; first | (rw [if_pos (by decide +kernel)]; kernel_rfl) | (rw [if_neg (by decide +kernel)]; exact ⟨rfl, rfl⟩))
    (fun os started H enc _ => lifted os started H enc)

theorem holds : Rows.NetAllSaid := over
end Go.Proofs.Ytnkalddmjdicfaa.netAllX
