/- NetOrder: for all arguments the call returns true. The law is brought to a function of Lean's own (W_..) by the machine of the texts beside it, and that is reckoned; no condition. -/
import Derived.Test.YtnkalddmjdicfaaExtDl
import Derived.Test.YtnkalddmjdicfaaExtL
import Derived.Test.YtnkalddmjdicfaaRows
import Derived.WalkKit
import Derived.ProofKit
import Derived.OpenShut
import Derived.ShutString
import Derived.ChangeOld
import Derived.Below
import Derived.Shelf.RegionOpenPlain
import Derived.Deep.RegionLaw
import Derived.Lib.Walk
namespace Go.Proofs.Ytnkalddmjdicfaa.netOrderX
open Go.Abs Go.RowKit Go.ChangeShapes Go.WideShapes Go.ChangeAt
set_option maxRecDepth 100000
set_option linter.unusedVariables false
set_option linter.unusedSimpArgs false
noncomputable abbrev P0 : Program := Try.prog
noncomputable def bodyOf (fn : Func) : Code := fn.body.getD .skip
def L0 : Lend := fun f => aget [] [(73, [0])] f
def kpL (l : List Bool) : Nat → Bool := fun j => l.getD j true
theorem own : ownKnob Try.prog.godebug = none := by kernel_rfl
theorem laidOut : laidOutB Try.prog = true := by kernel_rfl
theorem mixed : P0.follows .mixedOrders = true := by decide +kernel
theorem progOk_ : progOk P0 = true := by decide +kernel

theorem delU73 : Try.prog.underlying 46 = some (.slice 45) := by kernel_rfl
theorem delE73 : ∃ (inf : TypeInfo) (z : Value), Try.prog.info? 45 = some inf ∧ inf.size = 3 ∧ inf.zero = some z ∧ z.cells.size = 3 ∧ (∀ u ∈ z.cells.toList, u.oneCell' = true) := delE_of (by kernel_rfl)
set_option maxHeartbeats 4000000 in
theorem delW73 {inf : TypeInfo} {z : Value} (hinf : Try.prog.info? 45 = some inf) (hsz : inf.size = 3) (hzz : inf.zero = some z) (hzs : z.cells.size = 3) (hz1 : ∀ u ∈ z.cells.toList, u.oneCell' = true) (w : World) (b i k c : Nat) (arr : Array Value) (tb : Nat) (fz : Nat × Nat) (cs : List Value) (hmem : w.heap[b]? = some (.cells arr tb fz)) (hf : ∀ j, j < arr.size → ¬ (fz.1 ≤ j ∧ j < fz.2))
    (hi : i < k + 1) (hnc : k + 1 ≤ c) (hn : k + 1 ≤ 140737488355328) (hsize : arr.size = c * 3) (hcs : cs = (arr.toList.take ((k + 1) * 3)).drop ((i + 1) * 3)) (h1c : ∀ u ∈ cs, u.oneCell' = true) (A1 A2 : Array Value)
    (hA1 : A1 = (arr.toList.take (i * 3) ++ (cs ++ arr.toList.drop (i * 3 + cs.length))).toArray) (hA2 : A2 = (A1.toList.take (k * 3) ++ (z.cells.toList ++ A1.toList.drop (k * 3 + z.cells.toList.length))).toArray) :
    Calls Try.prog 73 #[.slice (some ⟨b, 0, none⟩) (k + 1) c, .int .i64 (i : Nat), .int .i64 ((i : Int) + 1)] w fun e w' => e = .returned (.slice (some ⟨b, 0, none⟩) k c) ∧ w' = (w.drew.setRow b A1).setRow b A2 := by
  have mixed := mixed
  have hz2 : ¬ ((i : Int) = (i : Int) + 1) := by omega
  have hcl : cs.length = (k - i) * 3 := by rw [hcs]; simp; omega
  have hA1s : A1.size = arr.size := by rw [hA1]; simp [hcl]; omega
  obtain ⟨Ad, hA, hsrc⟩ : ∃ Ad : Addr, (if c = i + 1 then (some ⟨b, 0, none⟩ : Option Addr) else some ⟨b, (i + 1) * 3, none⟩) = some Ad ∧ (∀ (t : Nat) (u : Value), cs[t]? = some u → w.drew.cell? (Ad.add t) = some u) := by
    by_cases h : c = i + 1
    · refine ⟨⟨b, 0, none⟩, by simp [h], fun t u hu => ?_⟩
      have h0 : cs = [] := List.eq_nil_of_length_eq_zero (by rw [hcl, show k - i = 0 by omega, Nat.zero_mul])
      rw [h0] at hu; simp at hu
    · refine ⟨⟨b, (i + 1) * 3, none⟩, by simp [h], fun t u hu => ?_⟩
      rw [hcs, List.getElem?_drop, List.getElem?_take] at hu
      split at hu
      · rw [Addr.add_lit]
        have e : w.drew.cell? ⟨b, (i + 1) * 3 + t, none⟩ = arr[(i + 1) * 3 + t]? := by simp [World.cell?, show w.drew.heap = w.heap from rfl, hmem]
        rw [e]; simpa using hu
      · cases hu
  obtain ⟨W1, hW1⟩ : ∃ W1, W1 = w.drew.setRow b A1 := ⟨_, rfl⟩
  have hm1 : W1.heap[b]? = some (.cells A1 tb fz) := by rw [hW1]; exact setRow_heap w.drew b arr A1 tb fz hmem
  have hap : ∀ ty m' c', m' = k - i → (Builtin.append_ #[46, 46] ty #[.slice (some ⟨b, 0, none⟩) i c, .slice (some Ad) m' c']).run Try.prog w.drew = .ok (.slice (some ⟨b, 0, none⟩) k c) W1 := fun ty m' c' hm => by
    subst hm
    have h := run_appendR (P := Try.prog) delU73 hinf w.drew hmem hf i c ty Ad (k - i) c' cs (by rw [hsz]; exact hcl) hsrc h1c (by omega) (by rw [hsize, hsz])
    rw [hsz] at h
    rw [h, hW1, hA1, show i + (k - i) = k by omega]
  have hclr : ∀ ty m' c', m' = 1 → (Builtin.clear_ #[46] ty #[.slice (some ⟨b, k * 3, none⟩) m' c']).run Try.prog W1 = .ok (.tuple #[]) (W1.setRow b A2) := fun ty m' c' hm => by
    subst hm
    rw [hA2]
    exact run_clearR (P := Try.prog) delU73 hinf hzz W1 hm1 (by rw [hA1s]; exact hf) (k * 3) c' ty hz1 (by simp [hzs]; rw [hA1s, hsize]; omega)
  have hic : i ≤ c := by omega
  have hjc : i + 1 ≤ c := by omega
  have hb3 : ¬ (c = k) := by omega
  have hb1 : (0 : Int) ≤ (i : Int) + 1 := by omega
  have hb4 : ((k + 1 : Nat) : Int) = (k : Int) + 1 := by omega
  have hb5 : (0 : Int) ≤ (k : Int) := by omega
  have hb6 : (k : Int) ≤ (k : Int) + 1 := by omega
  have hb7 : (k : Int) + 1 ≤ (c : Int) := by omega
  have hb8 : (i : Int) + 1 ≤ (k : Int) + 1 := by omega
  have hb2 : (i : Int) + 1 ≤ ((k + 1 : Nat) : Int) := by omega
  rw [← hW1]
  clear hcs hA1 hA2 hW1 hm1 hsrc hcl
  go_enter Try.func73, Try.ntmps73
  go_wp2_with fail
  go_region_law_o (refine step_append_runR rfl _ _ 46 46 rfl (.slice (some ⟨b, 0, none⟩) i c) (.slice (some Ad) (k - i) (c - (i + 1))) (by simp [Act.eval, Act.put]) (by simp [Act.eval, Act.put]) (hap _ _ _ rfl) ?_)
  go_wp2
  go_ret
  exact ⟨rfl, rfl⟩
theorem delF73 : DelF Try.prog 73 3 := by
  intro w b i n c arr tb fz hmem hsize hf h1c hi hnc hn
  obtain ⟨inf, z, hinf, hsz, hzz, hzs, hz1⟩ := delE73
  obtain ⟨k, rfl⟩ : ∃ k, n = k + 1 := ⟨n - 1, by omega⟩
  simp only [Nat.add_sub_cancel]
  obtain ⟨cs, hcs⟩ : ∃ cs, cs = (arr.toList.take ((k + 1) * 3)).drop ((i + 1) * 3) := ⟨_, rfl⟩
  have hsl : arr.toList.length = arr.size := Array.length_toList
  have hcl : cs.length = (k - i) * 3 := by rw [hcs, List.length_drop, List.length_take, hsl, hsize]; omega
  have hzl : z.cells.toList.length = 3 := by rw [Array.length_toList, hzs]
  refine (delW73 hinf hsz hzz hzs hz1 w b i k c arr tb fz cs hmem hf hi hnc hn hsize hcs (fun u hu => h1c u (by rw [hcs] at hu; exact List.mem_of_mem_drop hu)) _ _ rfl rfl).mono fun x w' => ?_
  rintro ⟨rfl, rfl⟩
  have hA1s : (arr.toList.take (i * 3) ++ (cs ++ arr.toList.drop (i * 3 + cs.length))).toArray.size = arr.size := by simp [hcl]; omega
  have hm1 := setRow_heap w.drew b arr (arr.toList.take (i * 3) ++ (cs ++ arr.toList.drop (i * 3 + cs.length))).toArray tb fz hmem
  have hA1t : (arr.toList.take (i * 3) ++ (cs ++ arr.toList.drop (i * 3 + cs.length))).toArray.toList.take (k * 3) = arr.toList.take (i * 3) ++ cs := by
    rw [List.toList_toArray, ← List.append_assoc]
    exact List.take_left' (by rw [List.length_append, List.length_take, hcl, hsl, hsize]; omega)
  generalize hA1 : (arr.toList.take (i * 3) ++ (cs ++ arr.toList.drop (i * 3 + cs.length))).toArray = A1 at *
  have hA1l : A1.toList.length = A1.size := Array.length_toList
  have hA2s : (A1.toList.take (k * 3) ++ (z.cells.toList ++ A1.toList.drop (k * 3 + z.cells.toList.length))).toArray.size = A1.size := by simp only [List.size_toArray, List.length_append, List.length_take, List.length_drop, hzl, hA1l, hA1s, hsize]; omega
  have hm2 := setRow_heap (w.drew.setRow b A1) b A1 (A1.toList.take (k * 3) ++ (z.cells.toList ++ A1.toList.drop (k * 3 + z.cells.toList.length))).toArray tb fz hm1
  refine ⟨rfl, rfl, rfl, rfl, _, hm2, by rw [hA2s, hA1s], ?_, by simp [World.setRow], fun j hj => ?_⟩
  · rw [List.toList_toArray, List.take_left' (by rw [List.length_take, hA1l, hA1s, hsize]; omega), hA1t, hcs]
  · rw [setRow_other _ _ _ _ hj, setRow_other _ _ _ _ hj]; rfl

noncomputable def con_law13_begun (N : Nat) : Con := ⟨31, [], [], Unit, fun _ => some (), fun _ => (.bs true, [], [])⟩
theorem con_law13_begun_ok (N : Nat) : Con.ok P0 (con_law13_begun N) := closed_con2 (nonJ_ok _) mixed progOk_ (noneΞ_ok2 _) (inl := [73]) (breath := 100000) (n := 60) (by kernel_rfl)
def as_slices_Clone_api_Gram : List AS := [.val (.list (.agg (.pair (.int .i64) (.pair .str .bool))))]
def bs_slices_Clone_api_Gram : List BS := []
def pout_slices_Clone_api_Gram : Pat := ⟨[(2, .acc 700005)], [(700005, .nrow 45 (.agg (.pair (.int .i64) (.pair .str .bool))) false true)]⟩
noncomputable def G_slices_Clone_api_Gram  (N : Nat) : OrcT := orcOf []
noncomputable def F_slices_Clone_api_Gram  (N : Nat) (x : List (Int × (List UInt8) × Bool)) : Option (List (Int × (List UInt8) × Bool)) :=
  (evT (G_slices_Clone_api_Gram  N) L0 P0 []
    [] N 400 (bodyOf Try.f71) ⟨8, slots 0 [.nl ⟨(.agg (.pair (.int .i64) (.pair .str .bool))), x⟩], tabU (lbOf as_slices_Clone_api_Gram bs_slices_Clone_api_Gram x) [], []⟩).elim (kRet 8 pout_slices_Clone_api_Gram (kpL []) (lbOf as_slices_Clone_api_Gram bs_slices_Clone_api_Gram x))
def out_slices_Clone_api_Gram (y : List (Int × (List UInt8) × Bool)) : V × List OK × List OK := (.acc 2000000 0, [], [.nrow 45 false true ⟨(.agg (.pair (.int .i64) (.pair .str .bool))), y⟩])
noncomputable def V_slices_Clone_api_Gram  (N : Nat) (x : List (Int × (List UInt8) × Bool)) : Option (List (Int × (List UInt8) × Bool)) :=
  cnd (decide (List.length x * (32 : Nat) ≤ (140737488355328 : Nat))) (some x) none
theorem FV_slices_Clone_api_Gram_eq  (N : Nat) (x : List (Int × (List UInt8) × Bool)) : F_slices_Clone_api_Gram  N x = V_slices_Clone_api_Gram  N x := by kernel_rfl
noncomputable def W_slices_Clone_api_Gram (N : Nat) (x : List (Int × (List UInt8) × Bool)) : Option (List (Int × (List UInt8) × Bool)) :=
  cnd (decide (List.length x * (32 : Nat) ≤ (140737488355328 : Nat))) (some x) none
theorem F_slices_Clone_api_Gram_eq (N : Nat) (x : List (Int × (List UInt8) × Bool)) : F_slices_Clone_api_Gram  N x = W_slices_Clone_api_Gram N x := (FV_slices_Clone_api_Gram_eq  N x).trans (by kernel_rfl)
noncomputable def conw_slices_Clone_api_Gram (w : List (Int × (List UInt8) × Bool) → Option (List (Int × (List UInt8) × Bool))) : Con := ⟨71, as_slices_Clone_api_Gram, bs_slices_Clone_api_Gram, List (Int × (List UInt8) × Bool), w, out_slices_Clone_api_Gram⟩
noncomputable def con_slices_Clone_api_Gram (N : Nat) : Con := conw_slices_Clone_api_Gram (W_slices_Clone_api_Gram N)
theorem R_slices_Clone_api_Gram_eq (x : List (Int × (List UInt8) × Bool)) (y : List (Int × (List UInt8) × Bool)) : retOf2 P0 Try.f71 (kpL []) (lbOf as_slices_Clone_api_Gram bs_slices_Clone_api_Gram x) (patS ⟨8, [], [], []⟩ pout_slices_Clone_api_Gram y) = some (out_slices_Clone_api_Gram y) := by kernel_rfl
noncomputable def FA_slices_Clone_api_Gram : Option (List (Int × (List UInt8) × Bool)) := (evT (G_slices_Clone_api_Gram 1) L0 P0 [] [] 1 400 (bodyOf Try.f71) ⟨8, slots 0 [.snil], tabU [] [], []⟩).elim (kRet 8 pout_slices_Clone_api_Gram (kpL []) [])
theorem FA_slices_Clone_api_Gram_eq : FA_slices_Clone_api_Gram = some [] := by kernel_rfl
theorem WN_slices_Clone_api_Gram (N : Nat) (r : List (Int × (List UInt8) × Bool)) (h : W_slices_Clone_api_Gram N [] = some r) : r = [] := by
  have e : W_slices_Clone_api_Gram N [] = some [] := by kernel_rfl
  rw [e] at h; injection h with h; exact h.symm
theorem con_slices_Clone_api_Gram_ok (N : Nat) : Con.ok P0 (con_slices_Clone_api_Gram N) := ⟨⟨Try.f71, Try.func71, by kernel_rfl, by kernel_rfl⟩, fun (x : List (Int × (List UInt8) × Bool)) (r : List (Int × (List UInt8) × Bool)) (hr : W_slices_Clone_api_Gram N x = some r) =>
  clone_split (e := (.agg (.pair (.int .i64) (.pair .str .bool)))) (ty := 45) (l := x) (r := r)
    (spec2_evT (Γ := G_slices_Clone_api_Gram 1) (Λ := L0) (lb := []) (pout := pout_slices_Clone_api_Gram) (kp := kpL []) mixed (orcOf_ok [] (by simp)) Try.func71 (c := bodyOf Try.f71) (by kernel_rfl) (by kernel_rfl) (of_decide_eq_true (by kernel_rfl)) FA_slices_Clone_api_Gram_eq (R_slices_Clone_api_Gram_eq x []))
    (spec2_evT (Γ := G_slices_Clone_api_Gram N) (Λ := L0) (lb := []) (pout := pout_slices_Clone_api_Gram) (kp := kpL []) mixed (orcOf_ok [] (by simp)) Try.func71 (c := bodyOf Try.f71) (by kernel_rfl) (by kernel_rfl) (of_decide_eq_true (by kernel_rfl)) ((F_slices_Clone_api_Gram_eq N x).trans hr) (R_slices_Clone_api_Gram_eq x r))
    (fun h => by subst h; exact WN_slices_Clone_api_Gram N r hr)⟩
def as_net_Send : List AS := [.val (.list (.agg (.pair (.int .i64) (.pair .str .bool)))), .val (.agg (.pair (.int .i64) (.pair .str .bool)))]
def bs_net_Send : List BS := []
def pout_net_Send : Pat := ⟨[(4, .val (.list (.agg (.pair (.int .i64) (.pair .str .bool)))))], []⟩
noncomputable def G_net_Send (w_slices_Clone_api_Gram : List (Int × (List UInt8) × Bool) → Option (List (Int × (List UInt8) × Bool))) (N : Nat) : OrcT := orcOf [conw_slices_Clone_api_Gram w_slices_Clone_api_Gram]
noncomputable def F_net_Send (w_slices_Clone_api_Gram : List (Int × (List UInt8) × Bool) → Option (List (Int × (List UInt8) × Bool))) (N : Nat) (x : (List (Int × (List UInt8) × Bool)) × Int × (List UInt8) × Bool) : Option (List (Int × (List UInt8) × Bool)) :=
  (evT (G_net_Send w_slices_Clone_api_Gram N) L0 P0 []
    [] N 400 (bodyOf Try.f32) ⟨16, slots 0 (argsOf as_net_Send bs_net_Send x), tabU (lbOf as_net_Send bs_net_Send x) [], []⟩).elim (kRet 16 pout_net_Send (kpL []) (lbOf as_net_Send bs_net_Send x))
def out_net_Send (y : List (Int × (List UInt8) × Bool)) : V × List OK × List OK := (valW (.list (.agg (.pair (.int .i64) (.pair .str .bool)))) y, [], [])
noncomputable def V_net_Send (w_slices_Clone_api_Gram : List (Int × (List UInt8) × Bool) → Option (List (Int × (List UInt8) × Bool))) (N : Nat) (x : (List (Int × (List UInt8) × Bool)) × Int × (List UInt8) × Bool) : Option (List (Int × (List UInt8) × Bool)) :=
  obind (w_slices_Clone_api_Gram (Prod.fst x)) fun (b : List (Int × List UInt8 × Bool)) =>
    cnd (decide ((60 : Int) ≤ (↑(List.length (Prod.fst x)) : Int))) (some b)
      (cnd
        (decide
          ((List.length b +
                List.length
                  [(Prod.fst (Prod.snd x), Prod.fst (Prod.snd (Prod.snd x)), Prod.snd (Prod.snd (Prod.snd x)))]) *
              (32 : Nat) ≤
            (140737488355328 : Nat)))
        (some (b ++ [(Prod.fst (Prod.snd x), Prod.fst (Prod.snd (Prod.snd x)), Prod.snd (Prod.snd (Prod.snd x)))])) none)
theorem FV_net_Send_eq (w_slices_Clone_api_Gram : List (Int × (List UInt8) × Bool) → Option (List (Int × (List UInt8) × Bool))) (N : Nat) (x : (List (Int × (List UInt8) × Bool)) × Int × (List UInt8) × Bool) : F_net_Send w_slices_Clone_api_Gram N x = V_net_Send w_slices_Clone_api_Gram N x := by kernel_rfl
noncomputable def W_net_Send (N : Nat) (x : (List (Int × (List UInt8) × Bool)) × Int × (List UInt8) × Bool) : Option (List (Int × (List UInt8) × Bool)) :=
  obind (W_slices_Clone_api_Gram N (Prod.fst x)) fun (b : List (Int × List UInt8 × Bool)) =>
    cnd (decide ((60 : Int) ≤ (↑(List.length (Prod.fst x)) : Int))) (some b)
      (cnd
        (decide
          ((List.length b +
                List.length
                  [(Prod.fst (Prod.snd x), Prod.fst (Prod.snd (Prod.snd x)), Prod.snd (Prod.snd (Prod.snd x)))]) *
              (32 : Nat) ≤
            (140737488355328 : Nat)))
        (some (b ++ [(Prod.fst (Prod.snd x), Prod.fst (Prod.snd (Prod.snd x)), Prod.snd (Prod.snd (Prod.snd x)))])) none)
theorem F_net_Send_eq (N : Nat) (x : (List (Int × (List UInt8) × Bool)) × Int × (List UInt8) × Bool) : F_net_Send (W_slices_Clone_api_Gram N) N x = W_net_Send N x := (FV_net_Send_eq (W_slices_Clone_api_Gram N) N x).trans (by kernel_rfl)
noncomputable def conw_net_Send (w : (List (Int × (List UInt8) × Bool)) × Int × (List UInt8) × Bool → Option (List (Int × (List UInt8) × Bool))) : Con := ⟨32, as_net_Send, bs_net_Send, List (Int × (List UInt8) × Bool), w, out_net_Send⟩
noncomputable def con_net_Send (N : Nat) : Con := conw_net_Send (W_net_Send N)
theorem R_net_Send_eq (x : (List (Int × (List UInt8) × Bool)) × Int × (List UInt8) × Bool) (y : List (Int × (List UInt8) × Bool)) : retOf2 P0 Try.f32 (kpL []) (lbOf as_net_Send bs_net_Send x) (patS ⟨16, [], [], []⟩ pout_net_Send y) = some (out_net_Send y) := by kernel_rfl
theorem con_net_Send_ok (N : Nat) : Con.ok P0 (con_net_Send N) := ⟨⟨Try.f32, Try.func32, by kernel_rfl, by kernel_rfl⟩, fun (x : (List (Int × (List UInt8) × Bool)) × Int × (List UInt8) × Bool) (r : List (Int × (List UInt8) × Bool)) (hr : W_net_Send N x = some r) =>
  spec2_evT (Γ := G_net_Send (W_slices_Clone_api_Gram N) N) (Λ := L0) (pout := pout_net_Send) (kp := kpL []) mixed (orcOf_ok _ (by simp only [List.mem_cons, List.not_mem_nil, or_false, forall_eq_or_imp, forall_eq]; exact con_slices_Clone_api_Gram_ok N)) Try.func32 (c := bodyOf Try.f32) (by kernel_rfl) (by kernel_rfl) (of_decide_eq_true (by kernel_rfl)) ((F_net_Send_eq N x).trans hr) (R_net_Send_eq x r)⟩
def as_net_there : List AS := [.val (.list (.agg (.pair (.int .i64) (.pair .str .bool)))), .val (.int .i64)]
def bs_net_there : List BS := []
def pout_net_there : Pat := ⟨[(4, .val .bool)], []⟩
noncomputable def G_net_there  (N : Nat) : OrcT := orcOf []
noncomputable def F_net_there  (N : Nat) (x : (List (Int × (List UInt8) × Bool)) × Int) : Option (Bool) :=
  (evT (G_net_there  N) L0 P0 []
    [] N 400 (bodyOf Try.f72) ⟨13, slots 0 (argsOf as_net_there bs_net_there x), tabU (lbOf as_net_there bs_net_there x) [], []⟩).elim (kRet 13 pout_net_there (kpL []) (lbOf as_net_there bs_net_there x))
def out_net_there (y : Bool) : V × List OK × List OK := (valW .bool y, [], [])
noncomputable def V_net_there  (N : Nat) (x : (List (Int × (List UInt8) × Bool)) × Int) : Option (Bool) :=
  cnd (decide ((0 : Int) ≤ Prod.snd x)) (some (decide (Prod.snd x < (↑(List.length (Prod.fst x)) : Int)))) (some false)
theorem FV_net_there_eq  (N : Nat) (x : (List (Int × (List UInt8) × Bool)) × Int) : F_net_there  N x = V_net_there  N x := by kernel_rfl
noncomputable def W_net_there (N : Nat) (x : (List (Int × (List UInt8) × Bool)) × Int) : Option (Bool) :=
  cnd (decide ((0 : Int) ≤ Prod.snd x)) (some (decide (Prod.snd x < (↑(List.length (Prod.fst x)) : Int)))) (some false)
theorem F_net_there_eq (N : Nat) (x : (List (Int × (List UInt8) × Bool)) × Int) : F_net_there  N x = W_net_there N x := (FV_net_there_eq  N x).trans (by kernel_rfl)
noncomputable def conw_net_there (w : (List (Int × (List UInt8) × Bool)) × Int → Option (Bool)) : Con := ⟨72, as_net_there, bs_net_there, Bool, w, out_net_there⟩
noncomputable def con_net_there (N : Nat) : Con := conw_net_there (W_net_there N)
theorem R_net_there_eq (x : (List (Int × (List UInt8) × Bool)) × Int) (y : Bool) : retOf2 P0 Try.f72 (kpL []) (lbOf as_net_there bs_net_there x) (patS ⟨13, [], [], []⟩ pout_net_there y) = some (out_net_there y) := by kernel_rfl
theorem con_net_there_ok (N : Nat) : Con.ok P0 (con_net_there N) := ⟨⟨Try.f72, Try.func72, by kernel_rfl, by kernel_rfl⟩, fun (x : (List (Int × (List UInt8) × Bool)) × Int) (r : Bool) (hr : W_net_there N x = some r) =>
  spec2_evT (Γ := G_net_there N) (Λ := L0) (pout := pout_net_there) (kp := kpL []) mixed (orcOf_ok [] (by simp)) Try.func72 (c := bodyOf Try.f72) (by kernel_rfl) (by kernel_rfl) (of_decide_eq_true (by kernel_rfl)) ((F_net_there_eq N x).trans hr) (R_net_there_eq x r)⟩
def as_slices_Delete_api_Gram : List AS := [.acc 0, .val (.int .i64), .val (.int .i64)]
def bs_slices_Delete_api_Gram : List BS := [.nrow 45 (.agg (.pair (.int .i64) (.pair .str .bool))) true]
def out_slices_Delete_api_Gram (y : List (Int × (List UInt8) × Bool)) : V × List OK × List OK := (.acc 2000000 0, [.dead], [.nrow 45 false false ⟨(.agg (.pair (.int .i64) (.pair .str .bool))), y⟩])
noncomputable def W_slices_Delete_api_Gram (N : Nat) (x : Int × Int × List (Int × (List UInt8) × Bool)) : Option (List (Int × (List UInt8) × Bool)) :=
  cnd (decide ((0 : Int) ≤ Prod.fst x) && decide (Prod.fst x < ((↑(List.length (Prod.snd (Prod.snd x))) : Int) : Int)) && decide (Prod.fst (Prod.snd x) = Prod.fst x + (1 : Int)) && decide (List.length (Prod.snd (Prod.snd x)) ≤ (140737488355328 : Nat))) (some (List.take (Int.toNat (Prod.fst x)) (Prod.snd (Prod.snd x)) ++ List.drop (Int.toNat (Prod.fst x) + (1 : Nat)) (Prod.snd (Prod.snd x)))) none
noncomputable def conw_slices_Delete_api_Gram (w : Int × Int × List (Int × (List UInt8) × Bool) → Option (List (Int × (List UInt8) × Bool))) : Con := ⟨73, as_slices_Delete_api_Gram, bs_slices_Delete_api_Gram, List (Int × (List UInt8) × Bool), w, out_slices_Delete_api_Gram⟩
noncomputable def con_slices_Delete_api_Gram (N : Nat) : Con := conw_slices_Delete_api_Gram (W_slices_Delete_api_Gram N)
theorem con_slices_Delete_api_Gram_ok (N : Nat) : Con.ok P0 (con_slices_Delete_api_Gram N) := ⟨⟨Try.f73, Try.func73, by kernel_rfl, by kernel_rfl⟩, fun (x : Int × Int × List (Int × (List UInt8) × Bool)) (r : List (Int × (List UInt8) × Bool)) (hr : W_slices_Delete_api_Gram N x = some r) => by
  obtain ⟨i, j, l⟩ := x
  exact del_con1 (e := (.agg (.pair (.int .i64) (.pair .str .bool)))) (ty := 45) (nl := true) (l := l) (r := r) (i := i) (j := j) delF73 rfl (by decide) hr⟩
def as_net_Lost : List AS := [.val (.list (.agg (.pair (.int .i64) (.pair .str .bool)))), .val (.int .i64)]
def bs_net_Lost : List BS := []
def pout_net_Lost : Pat := ⟨[(4, .val (.list (.agg (.pair (.int .i64) (.pair .str .bool))))), (5, .val .bool)], []⟩
noncomputable def G_net_Lost (w_slices_Clone_api_Gram : List (Int × (List UInt8) × Bool) → Option (List (Int × (List UInt8) × Bool))) (w_net_there : (List (Int × (List UInt8) × Bool)) × Int → Option (Bool)) (w_slices_Delete_api_Gram : Int × Int × List (Int × (List UInt8) × Bool) → Option (List (Int × (List UInt8) × Bool))) (N : Nat) : OrcT := orcOf [conw_slices_Clone_api_Gram w_slices_Clone_api_Gram, conw_net_there w_net_there, conw_slices_Delete_api_Gram w_slices_Delete_api_Gram]
noncomputable def F_net_Lost (w_slices_Clone_api_Gram : List (Int × (List UInt8) × Bool) → Option (List (Int × (List UInt8) × Bool))) (w_net_there : (List (Int × (List UInt8) × Bool)) × Int → Option (Bool)) (w_slices_Delete_api_Gram : Int × Int × List (Int × (List UInt8) × Bool) → Option (List (Int × (List UInt8) × Bool))) (N : Nat) (x : (List (Int × (List UInt8) × Bool)) × Int) : Option ((List (Int × (List UInt8) × Bool)) × Bool) :=
  (evT (G_net_Lost w_slices_Clone_api_Gram w_net_there w_slices_Delete_api_Gram N) L0 P0 []
    [] N 400 (bodyOf Try.f36) ⟨19, slots 0 (argsOf as_net_Lost bs_net_Lost x), tabU (lbOf as_net_Lost bs_net_Lost x) [], []⟩).elim (kRet 19 pout_net_Lost (kpL []) (lbOf as_net_Lost bs_net_Lost x))
def out_net_Lost (y : (List (Int × (List UInt8) × Bool)) × Bool) : V × List OK × List OK := (.tup [valW (.list (.agg (.pair (.int .i64) (.pair .str .bool)))) y.1, valW .bool y.2], [], [])
noncomputable def V_net_Lost (w_slices_Clone_api_Gram : List (Int × (List UInt8) × Bool) → Option (List (Int × (List UInt8) × Bool))) (w_net_there : (List (Int × (List UInt8) × Bool)) × Int → Option (Bool)) (w_slices_Delete_api_Gram : Int × Int × List (Int × (List UInt8) × Bool) → Option (List (Int × (List UInt8) × Bool))) (N : Nat) (x : (List (Int × (List UInt8) × Bool)) × Int) : Option ((List (Int × (List UInt8) × Bool)) × Bool) :=
  obind (w_slices_Clone_api_Gram (Prod.fst x)) fun (b : List (Int × List UInt8 × Bool)) =>
    obind (w_net_there (Prod.fst x, Prod.snd x)) fun (b_1 : Bool) =>
      cnd (!b_1) (some (b, false))
        (obind (w_slices_Delete_api_Gram (Prod.snd x, wr IntKind.i64 (Prod.snd x + (1 : Int)), b))
          fun (b : List (Int × List UInt8 × Bool)) => some (b, true))
theorem FV_net_Lost_eq (w_slices_Clone_api_Gram : List (Int × (List UInt8) × Bool) → Option (List (Int × (List UInt8) × Bool))) (w_net_there : (List (Int × (List UInt8) × Bool)) × Int → Option (Bool)) (w_slices_Delete_api_Gram : Int × Int × List (Int × (List UInt8) × Bool) → Option (List (Int × (List UInt8) × Bool))) (N : Nat) (x : (List (Int × (List UInt8) × Bool)) × Int) : F_net_Lost w_slices_Clone_api_Gram w_net_there w_slices_Delete_api_Gram N x = V_net_Lost w_slices_Clone_api_Gram w_net_there w_slices_Delete_api_Gram N x := by kernel_rfl
noncomputable def W_net_Lost (N : Nat) (x : (List (Int × (List UInt8) × Bool)) × Int) : Option ((List (Int × (List UInt8) × Bool)) × Bool) :=
  obind (W_slices_Clone_api_Gram N (Prod.fst x)) fun (b : List (Int × List UInt8 × Bool)) =>
    obind (W_net_there N (Prod.fst x, Prod.snd x)) fun (b_1 : Bool) =>
      cnd (!b_1) (some (b, false))
        (obind (W_slices_Delete_api_Gram N (Prod.snd x, wr IntKind.i64 (Prod.snd x + (1 : Int)), b))
          fun (b : List (Int × List UInt8 × Bool)) => some (b, true))
theorem F_net_Lost_eq (N : Nat) (x : (List (Int × (List UInt8) × Bool)) × Int) : F_net_Lost (W_slices_Clone_api_Gram N) (W_net_there N) (W_slices_Delete_api_Gram N) N x = W_net_Lost N x := (FV_net_Lost_eq (W_slices_Clone_api_Gram N) (W_net_there N) (W_slices_Delete_api_Gram N) N x).trans (by kernel_rfl)
noncomputable def conw_net_Lost (w : (List (Int × (List UInt8) × Bool)) × Int → Option ((List (Int × (List UInt8) × Bool)) × Bool)) : Con := ⟨36, as_net_Lost, bs_net_Lost, (List (Int × (List UInt8) × Bool)) × Bool, w, out_net_Lost⟩
noncomputable def con_net_Lost (N : Nat) : Con := conw_net_Lost (W_net_Lost N)
theorem R_net_Lost_eq (x : (List (Int × (List UInt8) × Bool)) × Int) (y : (List (Int × (List UInt8) × Bool)) × Bool) : retOf2 P0 Try.f36 (kpL []) (lbOf as_net_Lost bs_net_Lost x) (patS ⟨19, [], [], []⟩ pout_net_Lost y) = some (out_net_Lost y) := by kernel_rfl
theorem con_net_Lost_ok (N : Nat) : Con.ok P0 (con_net_Lost N) := ⟨⟨Try.f36, Try.func36, by kernel_rfl, by kernel_rfl⟩, fun (x : (List (Int × (List UInt8) × Bool)) × Int) (r : (List (Int × (List UInt8) × Bool)) × Bool) (hr : W_net_Lost N x = some r) =>
  spec2_evT (Γ := G_net_Lost (W_slices_Clone_api_Gram N) (W_net_there N) (W_slices_Delete_api_Gram N) N) (Λ := L0) (pout := pout_net_Lost) (kp := kpL []) mixed (orcOf_ok _ (by simp only [List.mem_cons, List.not_mem_nil, or_false, forall_eq_or_imp, forall_eq]; exact ⟨con_slices_Clone_api_Gram_ok N, con_net_there_ok N, con_slices_Delete_api_Gram_ok N⟩)) Try.func36 (c := bodyOf Try.f36) (by kernel_rfl) (by kernel_rfl) (of_decide_eq_true (by kernel_rfl)) ((F_net_Lost_eq N x).trans hr) (R_net_Lost_eq x r)⟩
def as_net_Comes : List AS := [.val (.list (.agg (.pair (.int .i64) (.pair .str .bool)))), .val (.int .i64)]
def bs_net_Comes : List BS := []
def pout_net_Comes : Pat := ⟨[(4, .val (.list (.agg (.pair (.int .i64) (.pair .str .bool))))), (5, .ptr 600005 0), (6, .val .bool)], [(600005, .box 45 (.val (.pair (.int .i64) (.pair .str .bool))))]⟩
noncomputable def G_net_Comes (w_net_Lost : (List (Int × (List UInt8) × Bool)) × Int → Option ((List (Int × (List UInt8) × Bool)) × Bool)) (N : Nat) : OrcT := orcOf [conw_net_Lost w_net_Lost]
noncomputable def F_net_Comes (w_net_Lost : (List (Int × (List UInt8) × Bool)) × Int → Option ((List (Int × (List UInt8) × Bool)) × Bool)) (N : Nat) (x : (List (Int × (List UInt8) × Bool)) × Int) : Option ((List (Int × (List UInt8) × Bool)) × Bool × Int × (List UInt8) × Bool) :=
  (evT (G_net_Comes w_net_Lost N) L0 P0 []
    [] N 400 (bodyOf Try.f34) ⟨24, slots 0 (argsOf as_net_Comes bs_net_Comes x), tabU (lbOf as_net_Comes bs_net_Comes x) [], []⟩).elim (kRet 24 pout_net_Comes (kpL []) (lbOf as_net_Comes bs_net_Comes x))
def out_net_Comes (y : (List (Int × (List UInt8) × Bool)) × Bool × Int × (List UInt8) × Bool) : V × List OK × List OK := (.tup [valW (.list (.agg (.pair (.int .i64) (.pair .str .bool)))) y.1, valW (.agg (.pair (.int .i64) (.pair .str .bool))) y.2.2, valW .bool y.2.1], [], [])
noncomputable def V_net_Comes (w_net_Lost : (List (Int × (List UInt8) × Bool)) × Int → Option ((List (Int × (List UInt8) × Bool)) × Bool)) (N : Nat) (x : (List (Int × (List UInt8) × Bool)) × Int) : Option ((List (Int × (List UInt8) × Bool)) × Bool × Int × (List UInt8) × Bool) :=
  obind (w_net_Lost (Prod.fst x, Prod.snd x)) fun (b : List (Int × List UInt8 × Bool) × Bool) =>
    cnd (!Prod.snd b) (some (Prod.fst b, false, (0 : Int), [], false))
      (cnd (decide ((0 : Int) ≤ Prod.snd x) && decide (Prod.snd x < (↑(List.length (Prod.fst x)) : Int)))
        (some
          (Prod.fst b, true, Prod.fst (List.getD (Prod.fst x) (Int.toNat (Prod.snd x)) ((0 : Int), [], false)),
            Prod.fst (Prod.snd (List.getD (Prod.fst x) (Int.toNat (Prod.snd x)) ((0 : Int), [], false))),
            Prod.snd (Prod.snd (List.getD (Prod.fst x) (Int.toNat (Prod.snd x)) ((0 : Int), [], false)))))
        none)
theorem FV_net_Comes_eq (w_net_Lost : (List (Int × (List UInt8) × Bool)) × Int → Option ((List (Int × (List UInt8) × Bool)) × Bool)) (N : Nat) (x : (List (Int × (List UInt8) × Bool)) × Int) : F_net_Comes w_net_Lost N x = V_net_Comes w_net_Lost N x := by kernel_rfl
noncomputable def W_net_Comes (N : Nat) (x : (List (Int × (List UInt8) × Bool)) × Int) : Option ((List (Int × (List UInt8) × Bool)) × Bool × Int × (List UInt8) × Bool) :=
  obind (W_net_Lost N (Prod.fst x, Prod.snd x)) fun (b : List (Int × List UInt8 × Bool) × Bool) =>
    cnd (!Prod.snd b) (some (Prod.fst b, false, (0 : Int), [], false))
      (cnd (decide ((0 : Int) ≤ Prod.snd x) && decide (Prod.snd x < (↑(List.length (Prod.fst x)) : Int)))
        (some
          (Prod.fst b, true, Prod.fst (List.getD (Prod.fst x) (Int.toNat (Prod.snd x)) ((0 : Int), [], false)),
            Prod.fst (Prod.snd (List.getD (Prod.fst x) (Int.toNat (Prod.snd x)) ((0 : Int), [], false))),
            Prod.snd (Prod.snd (List.getD (Prod.fst x) (Int.toNat (Prod.snd x)) ((0 : Int), [], false)))))
        none)
theorem F_net_Comes_eq (N : Nat) (x : (List (Int × (List UInt8) × Bool)) × Int) : F_net_Comes (W_net_Lost N) N x = W_net_Comes N x := (FV_net_Comes_eq (W_net_Lost N) N x).trans (by kernel_rfl)
noncomputable def conw_net_Comes (w : (List (Int × (List UInt8) × Bool)) × Int → Option ((List (Int × (List UInt8) × Bool)) × Bool × Int × (List UInt8) × Bool)) : Con := ⟨34, as_net_Comes, bs_net_Comes, (List (Int × (List UInt8) × Bool)) × Bool × Int × (List UInt8) × Bool, w, out_net_Comes⟩
noncomputable def con_net_Comes (N : Nat) : Con := conw_net_Comes (W_net_Comes N)
theorem R_net_Comes_eq (x : (List (Int × (List UInt8) × Bool)) × Int) (y : (List (Int × (List UInt8) × Bool)) × Bool × Int × (List UInt8) × Bool) : retOf2 P0 Try.f34 (kpL []) (lbOf as_net_Comes bs_net_Comes x) (patS ⟨24, [], [], []⟩ pout_net_Comes y) = some (out_net_Comes y) := by kernel_rfl
theorem con_net_Comes_ok (N : Nat) : Con.ok P0 (con_net_Comes N) := ⟨⟨Try.f34, Try.func34, by kernel_rfl, by kernel_rfl⟩, fun (x : (List (Int × (List UInt8) × Bool)) × Int) (r : (List (Int × (List UInt8) × Bool)) × Bool × Int × (List UInt8) × Bool) (hr : W_net_Comes N x = some r) =>
  spec2_evT (Γ := G_net_Comes (W_net_Lost N) N) (Λ := L0) (pout := pout_net_Comes) (kp := kpL []) mixed (orcOf_ok _ (by simp only [List.mem_cons, List.not_mem_nil, or_false, forall_eq_or_imp, forall_eq]; exact con_net_Lost_ok N)) Try.func34 (c := bodyOf Try.f34) (by kernel_rfl) (by kernel_rfl) (of_decide_eq_true (by kernel_rfl)) ((F_net_Comes_eq N x).trans hr) (R_net_Comes_eq x r)⟩
def as_law13_NetOrder : List AS := [.val (.list (.int .u8)), .val (.list (.int .u8))]
def bs_law13_NetOrder : List BS := []
def pout_law13_NetOrder : Pat := ⟨[(4, .val .bool)], []⟩
noncomputable def G_law13_NetOrder (w_net_Send : (List (Int × (List UInt8) × Bool)) × Int × (List UInt8) × Bool → Option (List (Int × (List UInt8) × Bool))) (w_net_Comes : (List (Int × (List UInt8) × Bool)) × Int → Option ((List (Int × (List UInt8) × Bool)) × Bool × Int × (List UInt8) × Bool)) (N : Nat) : OrcT := orcOf [con_law13_begun N, conw_net_Send w_net_Send, conw_net_Comes w_net_Comes]
noncomputable def F_law13_NetOrder (w_net_Send : (List (Int × (List UInt8) × Bool)) × Int × (List UInt8) × Bool → Option (List (Int × (List UInt8) × Bool))) (w_net_Comes : (List (Int × (List UInt8) × Bool)) × Int → Option ((List (Int × (List UInt8) × Bool)) × Bool × Int × (List UInt8) × Bool)) (N : Nat) (x : (List Int) × List Int) : Option (Bool) :=
  (evT (G_law13_NetOrder w_net_Send w_net_Comes N) L0 P0 [(13, .loop [] ⟨[(5, .val (.list (.agg (.pair (.int .i64) (.pair .str .bool))))), (7, .val .str), (10, .val (.int .i64))], []⟩ [(.exit 2, ⟨[(5, .val (.list (.agg (.pair (.int .i64) (.pair .str .bool))))), (7, .val .str)], []⟩), (.ret, ⟨[(4, .val .bool)], []⟩)]),
    (8, .loop [] ⟨[(5, .val (.list (.agg (.pair (.int .i64) (.pair .str .bool))))), (6, .val .str), (7, .val .str), (8, .val (.int .i64))], []⟩ [(.exit 0, ⟨[(5, .val (.list (.agg (.pair (.int .i64) (.pair .str .bool))))), (6, .val .str), (7, .val .str)], []⟩), (.ret, ⟨[(4, .val .bool)], []⟩)]),
    (20, .loop [] ⟨[(5, .val (.list (.agg (.pair (.int .i64) (.pair .str .bool))))), (7, .val .str), (14, .val (.int .i64))], []⟩ [(.exit 4, ⟨[(5, .val (.list (.agg (.pair (.int .i64) (.pair .str .bool))))), (7, .val .str)], []⟩), (.ret, ⟨[(4, .val .bool)], []⟩)])]
    [] N 400 (bodyOf Try.f9) ⟨119, slots 0 (argsOf as_law13_NetOrder bs_law13_NetOrder x), tabU (lbOf as_law13_NetOrder bs_law13_NetOrder x) [], []⟩).elim (kRet 119 pout_law13_NetOrder (kpL []) (lbOf as_law13_NetOrder bs_law13_NetOrder x))
def out_law13_NetOrder (y : Bool) : V × List OK × List OK := (valW .bool y, [], [])
noncomputable def V_law13_NetOrder (w_net_Send : (List (Int × (List UInt8) × Bool)) × Int × (List UInt8) × Bool → Option (List (Int × (List UInt8) × Bool))) (w_net_Comes : (List (Int × (List UInt8) × Bool)) × Int → Option ((List (Int × (List UInt8) × Bool)) × Bool × Int × (List UInt8) × Bool)) (N : Nat) (x : (List Int) × List Int) : Option (Bool) :=
  cnd (decide ((50 : Int) < (↑(List.length (Prod.fst x)) : Int))) (some true)
    (cnd (decide ((50 : Int) < (↑(List.length (Prod.snd x)) : Int))) (some true)
      (obind
        (loopN N
          (fun (v : List (Int × List UInt8 × Bool) × List UInt8 × List UInt8 × Int) =>
            cnd (decide (Prod.snd (Prod.snd (Prod.snd v)) < (↑(List.length (Prod.fst x)) : Int)))
              (cnd
                (decide ((0 : Int) ≤ Prod.snd (Prod.snd (Prod.snd v))) &&
                  decide (Prod.snd (Prod.snd (Prod.snd v)) < (↑(List.length (Prod.fst x)) : Int)))
                (cnd
                  (List.all
                    [wr IntKind.u8
                        ((97 : Int) +
                          Int.tmod (List.getD (Prod.fst x) (Int.toNat (Prod.snd (Prod.snd (Prod.snd v)))) (0 : Int))
                            (26 : Int))]
                    fun (n : Int) => decide ((0 : Int) ≤ n) && decide (n < (256 : Int)))
                  (obind
                    (w_net_Send
                      (Prod.fst v, (1 : Int),
                        bytesI
                          [wr IntKind.u8
                              ((97 : Int) +
                                Int.tmod (List.getD (Prod.fst x) (Int.toNat (Prod.snd (Prod.snd (Prod.snd v)))) (0 : Int))
                                  (26 : Int))],
                        false))
                    fun (b : List (Int × List UInt8 × Bool)) =>
                    cnd
                      (decide
                        (List.length (Prod.fst (Prod.snd v)) +
                            List.length
                              (bytesI
                                [wr IntKind.u8
                                    ((97 : Int) +
                                      Int.tmod
                                        (List.getD (Prod.fst x) (Int.toNat (Prod.snd (Prod.snd (Prod.snd v)))) (0 : Int))
                                        (26 : Int))]) ≤
                          (9223372036854775807 : Nat)))
                      (obind
                        (loopN N
                          (fun (v_1 : List (Int × List UInt8 × Bool) × List UInt8 × Int) =>
                            cnd (decide (Prod.snd (Prod.snd (Prod.snd v)) < (↑(List.length (Prod.snd x)) : Int)))
                              (cnd
                                (decide ((0 : Int) ≤ Prod.snd (Prod.snd (Prod.snd v))) &&
                                  decide (Prod.snd (Prod.snd (Prod.snd v)) < (↑(List.length (Prod.snd x)) : Int)))
                                (cnd
                                  (decide
                                    (Prod.snd (Prod.snd v_1) <
                                      wr IntKind.i64
                                        (Int.tmod
                                          (List.getD (Prod.snd x) (Int.toNat (Prod.snd (Prod.snd (Prod.snd v))))
                                            (0 : Int))
                                          (3 : Int))))
                                  (obind (w_net_Comes (Prod.fst v_1, (0 : Int)))
                                    fun (b : List (Int × List UInt8 × Bool) × Bool × Int × List UInt8 × Bool) =>
                                    cnd (!Prod.fst (Prod.snd b) == decide ((0 : Int) < (↑(List.length (Prod.fst v_1)) : Int)))
                                      (some (Sum.inr (Sum.inr false)))
                                      (cnd
                                        (decide
                                          (List.length (Prod.fst (Prod.snd v_1)) +
                                              List.length (Prod.fst (Prod.snd (Prod.snd (Prod.snd b)))) ≤
                                            (9223372036854775807 : Nat)))
                                        (some
                                          (Sum.inl
                                            (Prod.fst b,
                                              Prod.fst (Prod.snd v_1) ++ Prod.fst (Prod.snd (Prod.snd (Prod.snd b))),
                                              wr IntKind.i64 (Prod.snd (Prod.snd v_1) + (1 : Int)))))
                                        none))
                                  (some (Sum.inr (Sum.inl (Prod.fst v_1, Prod.fst (Prod.snd v_1))))))
                                none)
                              (some (Sum.inr (Sum.inl (Prod.fst v_1, Prod.fst (Prod.snd v_1))))))
                          (b, Prod.fst (Prod.snd (Prod.snd v)), (0 : Int)))
                        fun (b : List (Int × List UInt8 × Bool) × List UInt8 ⊕ Bool) =>
                        selim
                          (fun (b : List (Int × List UInt8 × Bool) × List UInt8) =>
                            some
                              (Sum.inl
                                (Prod.fst b,
                                  Prod.fst (Prod.snd v) ++
                                    bytesI
                                      [wr IntKind.u8
                                          ((97 : Int) +
                                            Int.tmod
                                              (List.getD (Prod.fst x) (Int.toNat (Prod.snd (Prod.snd (Prod.snd v))))
                                                (0 : Int))
                                              (26 : Int))],
                                  Prod.snd b, wr IntKind.i64 (Prod.snd (Prod.snd (Prod.snd v)) + (1 : Int)))))
                          (fun (c : Bool) => some (Sum.inr (Sum.inr c))) b)
                      none)
                  none)
                none)
              (some (Sum.inr (Sum.inl (Prod.fst v, Prod.fst (Prod.snd v), Prod.fst (Prod.snd (Prod.snd v)))))))
          ([], [], [], (0 : Int)))
        fun (b : List (Int × List UInt8 × Bool) × List UInt8 × List UInt8 ⊕ Bool) =>
        selim
          (fun (b : List (Int × List UInt8 × Bool) × List UInt8 × List UInt8) =>
            obind
              (loopN N
                (fun (v : List (Int × List UInt8 × Bool) × List UInt8 × Int) =>
                  cnd (decide (Prod.snd (Prod.snd v) < (60 : Int)))
                    (cnd (decide ((0 : Int) < (↑(List.length (Prod.fst v)) : Int)))
                      (obind (w_net_Comes (Prod.fst v, (0 : Int)))
                        fun (b : List (Int × List UInt8 × Bool) × Bool × Int × List UInt8 × Bool) =>
                        cnd (!Prod.fst (Prod.snd b)) (some (Sum.inr (Sum.inr false)))
                          (cnd
                            (decide
                              ((↑(List.length (Prod.fst b)) : Int) ≠ wr IntKind.i64 ((↑(List.length (Prod.fst v)) : Int) - (1 : Int))))
                            (some (Sum.inr (Sum.inr false)))
                            (cnd
                              (decide
                                (List.length (Prod.fst (Prod.snd v)) +
                                    List.length (Prod.fst (Prod.snd (Prod.snd (Prod.snd b)))) ≤
                                  (9223372036854775807 : Nat)))
                              (some
                                (Sum.inl
                                  (Prod.fst b, Prod.fst (Prod.snd v) ++ Prod.fst (Prod.snd (Prod.snd (Prod.snd b))),
                                    wr IntKind.i64 (Prod.snd (Prod.snd v) + (1 : Int)))))
                              none)))
                      (some (Sum.inr (Sum.inl (Prod.fst v, Prod.fst (Prod.snd v))))))
                    (some (Sum.inr (Sum.inl (Prod.fst v, Prod.fst (Prod.snd v))))))
                (Prod.fst b, Prod.snd (Prod.snd b), (0 : Int)))
              fun (b_1 : List (Int × List UInt8 × Bool) × List UInt8 ⊕ Bool) =>
              selim
                (fun (b_2 : List (Int × List UInt8 × Bool) × List UInt8) =>
                  cnd (Prod.snd b_2 == Prod.fst (Prod.snd b)) (some (decide ((↑(List.length (Prod.fst b_2)) : Int) = (0 : Int))))
                    (some false))
                (fun (c : Bool) => some c) b_1)
          (fun (c : Bool) => some c) b))
theorem FV_law13_NetOrder_eq (w_net_Send : (List (Int × (List UInt8) × Bool)) × Int × (List UInt8) × Bool → Option (List (Int × (List UInt8) × Bool))) (w_net_Comes : (List (Int × (List UInt8) × Bool)) × Int → Option ((List (Int × (List UInt8) × Bool)) × Bool × Int × (List UInt8) × Bool)) (N : Nat) (x : (List Int) × List Int) : F_law13_NetOrder w_net_Send w_net_Comes N x = V_law13_NetOrder w_net_Send w_net_Comes N x := by kernel_rfl
noncomputable def W_law13_NetOrder (N : Nat) (x : (List Int) × List Int) : Option (Bool) :=
  cnd (decide ((50 : Int) < (↑(List.length (Prod.fst x)) : Int))) (some true)
    (cnd (decide ((50 : Int) < (↑(List.length (Prod.snd x)) : Int))) (some true)
      (obind
        (loopN N
          (fun (v : List (Int × List UInt8 × Bool) × List UInt8 × List UInt8 × Int) =>
            cnd (decide (Prod.snd (Prod.snd (Prod.snd v)) < (↑(List.length (Prod.fst x)) : Int)))
              (cnd
                (decide ((0 : Int) ≤ Prod.snd (Prod.snd (Prod.snd v))) &&
                  decide (Prod.snd (Prod.snd (Prod.snd v)) < (↑(List.length (Prod.fst x)) : Int)))
                (cnd
                  (List.all
                    [wr IntKind.u8
                        ((97 : Int) +
                          Int.tmod (List.getD (Prod.fst x) (Int.toNat (Prod.snd (Prod.snd (Prod.snd v)))) (0 : Int))
                            (26 : Int))]
                    fun (n : Int) => decide ((0 : Int) ≤ n) && decide (n < (256 : Int)))
                  (obind
                    (W_net_Send N
                      (Prod.fst v, (1 : Int),
                        bytesI
                          [wr IntKind.u8
                              ((97 : Int) +
                                Int.tmod (List.getD (Prod.fst x) (Int.toNat (Prod.snd (Prod.snd (Prod.snd v)))) (0 : Int))
                                  (26 : Int))],
                        false))
                    fun (b : List (Int × List UInt8 × Bool)) =>
                    cnd
                      (decide
                        (List.length (Prod.fst (Prod.snd v)) +
                            List.length
                              (bytesI
                                [wr IntKind.u8
                                    ((97 : Int) +
                                      Int.tmod
                                        (List.getD (Prod.fst x) (Int.toNat (Prod.snd (Prod.snd (Prod.snd v)))) (0 : Int))
                                        (26 : Int))]) ≤
                          (9223372036854775807 : Nat)))
                      (obind
                        (loopN N
                          (fun (v_1 : List (Int × List UInt8 × Bool) × List UInt8 × Int) =>
                            cnd (decide (Prod.snd (Prod.snd (Prod.snd v)) < (↑(List.length (Prod.snd x)) : Int)))
                              (cnd
                                (decide ((0 : Int) ≤ Prod.snd (Prod.snd (Prod.snd v))) &&
                                  decide (Prod.snd (Prod.snd (Prod.snd v)) < (↑(List.length (Prod.snd x)) : Int)))
                                (cnd
                                  (decide
                                    (Prod.snd (Prod.snd v_1) <
                                      wr IntKind.i64
                                        (Int.tmod
                                          (List.getD (Prod.snd x) (Int.toNat (Prod.snd (Prod.snd (Prod.snd v))))
                                            (0 : Int))
                                          (3 : Int))))
                                  (obind (W_net_Comes N (Prod.fst v_1, (0 : Int)))
                                    fun (b : List (Int × List UInt8 × Bool) × Bool × Int × List UInt8 × Bool) =>
                                    cnd (!Prod.fst (Prod.snd b) == decide ((0 : Int) < (↑(List.length (Prod.fst v_1)) : Int)))
                                      (some (Sum.inr (Sum.inr false)))
                                      (cnd
                                        (decide
                                          (List.length (Prod.fst (Prod.snd v_1)) +
                                              List.length (Prod.fst (Prod.snd (Prod.snd (Prod.snd b)))) ≤
                                            (9223372036854775807 : Nat)))
                                        (some
                                          (Sum.inl
                                            (Prod.fst b,
                                              Prod.fst (Prod.snd v_1) ++ Prod.fst (Prod.snd (Prod.snd (Prod.snd b))),
                                              wr IntKind.i64 (Prod.snd (Prod.snd v_1) + (1 : Int)))))
                                        none))
                                  (some (Sum.inr (Sum.inl (Prod.fst v_1, Prod.fst (Prod.snd v_1))))))
                                none)
                              (some (Sum.inr (Sum.inl (Prod.fst v_1, Prod.fst (Prod.snd v_1))))))
                          (b, Prod.fst (Prod.snd (Prod.snd v)), (0 : Int)))
                        fun (b : List (Int × List UInt8 × Bool) × List UInt8 ⊕ Bool) =>
                        selim
                          (fun (b : List (Int × List UInt8 × Bool) × List UInt8) =>
                            some
                              (Sum.inl
                                (Prod.fst b,
                                  Prod.fst (Prod.snd v) ++
                                    bytesI
                                      [wr IntKind.u8
                                          ((97 : Int) +
                                            Int.tmod
                                              (List.getD (Prod.fst x) (Int.toNat (Prod.snd (Prod.snd (Prod.snd v))))
                                                (0 : Int))
                                              (26 : Int))],
                                  Prod.snd b, wr IntKind.i64 (Prod.snd (Prod.snd (Prod.snd v)) + (1 : Int)))))
                          (fun (c : Bool) => some (Sum.inr (Sum.inr c))) b)
                      none)
                  none)
                none)
              (some (Sum.inr (Sum.inl (Prod.fst v, Prod.fst (Prod.snd v), Prod.fst (Prod.snd (Prod.snd v)))))))
          ([], [], [], (0 : Int)))
        fun (b : List (Int × List UInt8 × Bool) × List UInt8 × List UInt8 ⊕ Bool) =>
        selim
          (fun (b : List (Int × List UInt8 × Bool) × List UInt8 × List UInt8) =>
            obind
              (loopN N
                (fun (v : List (Int × List UInt8 × Bool) × List UInt8 × Int) =>
                  cnd (decide (Prod.snd (Prod.snd v) < (60 : Int)))
                    (cnd (decide ((0 : Int) < (↑(List.length (Prod.fst v)) : Int)))
                      (obind (W_net_Comes N (Prod.fst v, (0 : Int)))
                        fun (b : List (Int × List UInt8 × Bool) × Bool × Int × List UInt8 × Bool) =>
                        cnd (!Prod.fst (Prod.snd b)) (some (Sum.inr (Sum.inr false)))
                          (cnd
                            (decide
                              ((↑(List.length (Prod.fst b)) : Int) ≠ wr IntKind.i64 ((↑(List.length (Prod.fst v)) : Int) - (1 : Int))))
                            (some (Sum.inr (Sum.inr false)))
                            (cnd
                              (decide
                                (List.length (Prod.fst (Prod.snd v)) +
                                    List.length (Prod.fst (Prod.snd (Prod.snd (Prod.snd b)))) ≤
                                  (9223372036854775807 : Nat)))
                              (some
                                (Sum.inl
                                  (Prod.fst b, Prod.fst (Prod.snd v) ++ Prod.fst (Prod.snd (Prod.snd (Prod.snd b))),
                                    wr IntKind.i64 (Prod.snd (Prod.snd v) + (1 : Int)))))
                              none)))
                      (some (Sum.inr (Sum.inl (Prod.fst v, Prod.fst (Prod.snd v))))))
                    (some (Sum.inr (Sum.inl (Prod.fst v, Prod.fst (Prod.snd v))))))
                (Prod.fst b, Prod.snd (Prod.snd b), (0 : Int)))
              fun (b_1 : List (Int × List UInt8 × Bool) × List UInt8 ⊕ Bool) =>
              selim
                (fun (b_2 : List (Int × List UInt8 × Bool) × List UInt8) =>
                  cnd (Prod.snd b_2 == Prod.fst (Prod.snd b)) (some (decide ((↑(List.length (Prod.fst b_2)) : Int) = (0 : Int))))
                    (some false))
                (fun (c : Bool) => some c) b_1)
          (fun (c : Bool) => some c) b))
theorem F_law13_NetOrder_eq (N : Nat) (x : (List Int) × List Int) : F_law13_NetOrder (W_net_Send N) (W_net_Comes N) N x = W_law13_NetOrder N x := (FV_law13_NetOrder_eq (W_net_Send N) (W_net_Comes N) N x).trans (by kernel_rfl)
noncomputable def conw_law13_NetOrder (w : (List Int) × List Int → Option (Bool)) : Con := ⟨9, as_law13_NetOrder, bs_law13_NetOrder, Bool, w, out_law13_NetOrder⟩
noncomputable def con_law13_NetOrder (N : Nat) : Con := conw_law13_NetOrder (W_law13_NetOrder N)
theorem R_law13_NetOrder_eq (x : (List Int) × List Int) (y : Bool) : retOf2 P0 Try.f9 (kpL []) (lbOf as_law13_NetOrder bs_law13_NetOrder x) (patS ⟨119, [], [], []⟩ pout_law13_NetOrder y) = some (out_law13_NetOrder y) := by kernel_rfl
theorem con_law13_NetOrder_ok (N : Nat) : Con.ok P0 (con_law13_NetOrder N) := ⟨⟨Try.f9, Try.func9, by kernel_rfl, by kernel_rfl⟩, fun (x : (List Int) × List Int) (r : Bool) (hr : W_law13_NetOrder N x = some r) =>
  spec2_evT (Γ := G_law13_NetOrder (W_net_Send N) (W_net_Comes N) N) (Λ := L0) (pout := pout_law13_NetOrder) (kp := kpL []) mixed (orcOf_ok _ (by simp only [List.mem_cons, List.not_mem_nil, or_false, forall_eq_or_imp, forall_eq]; exact ⟨con_law13_begun_ok N, con_net_Send_ok N, con_net_Comes_ok N⟩)) Try.func9 (c := bodyOf Try.f9) (by kernel_rfl) (by kernel_rfl) (of_decide_eq_true (by kernel_rfl)) ((F_law13_NetOrder_eq N x).trans hr) (R_law13_NetOrder_eq x r)⟩
/-! What is reckoned. -/
-- PURE
theorem wr_m {z : Int} (h : -140737488355328 ≤ z) (h2 : z ≤ 140737488355328) : wr .i64 z = z := wr_i64 (by omega) (by omega)
abbrev Gr := Int × List UInt8 × Bool
abbrev gD : Gr := ((0 : Int), ([] : List UInt8), false)
theorem Clone_g (N : Nat) (l : List Gr) (hl : l.length ≤ 1000) : W_slices_Clone_api_Gram N l = some l := by
  unfold W_slices_Clone_api_Gram
  rw [dT (by omega), cnd_t]
theorem Send_eq (N : Nat) (l : List Gr) (g : Gr) (hl : l.length ≤ 1000) : W_net_Send N (l, g) = some (if 60 ≤ l.length then l else l ++ [g]) := by
  unfold W_net_Send
  simp only [Clone_g N l hl, obind_s]
  by_cases h : 60 ≤ l.length
  · rw [dT (by omega), cnd_t, if_pos h]
  · rw [dF (by omega), cnd_f, dT (by simp only [List.length_singleton]; omega), cnd_t, if_neg h]
theorem there_eq (N : Nat) (l : List Gr) (i : Int) : W_net_there N (l, i) = some (decide (0 ≤ i ∧ i < l.length)) := by
  unfold W_net_there
  simp only
  by_cases h : 0 ≤ i
  · rw [dT h, cnd_t]
    by_cases h2 : i < l.length
    · rw [dT h2, dT ⟨h, h2⟩]
    · rw [dF h2, dF (fun q => h2 q.2)]
  · rw [dF h, cnd_f, dF (fun q => h q.1)]
theorem Lost_no (N : Nat) (l : List Gr) (i : Int) (hl : l.length ≤ 1000) (h : ¬ (0 ≤ i ∧ i < l.length)) : W_net_Lost N (l, i) = some (l, false) := by
  unfold W_net_Lost
  simp only [Clone_g N l hl, obind_s, there_eq]
  rw [dF h, Bool.not_false, cnd_t]
theorem Lost_yes (N : Nat) (l : List Gr) (i : Nat) (hl : l.length ≤ 1000) (h : i < l.length) : W_net_Lost N (l, (i : Int)) = some (l.take i ++ l.drop (i + 1), true) := by
  unfold W_net_Lost
  simp only [Clone_g N l hl, obind_s, there_eq]
  rw [dT ⟨by omega, by omega⟩, Bool.not_true, cnd_f, wr_m (by omega) (by omega)]
  unfold W_slices_Delete_api_Gram
  simp only
  rw [dT (by omega), dT (by omega), dT trivial, dT (by omega)]
  simp only [Bool.and_self, cnd_t, obind_s, Int.toNat_natCast]
theorem Comes_no (N : Nat) (l : List Gr) (i : Int) (hl : l.length ≤ 1000) (h : ¬ (0 ≤ i ∧ i < l.length)) : W_net_Comes N (l, i) = some (l, false, gD) := by
  unfold W_net_Comes
  simp only [Lost_no N l i hl h, obind_s]
  rw [Bool.not_false, cnd_t]
theorem Comes_yes (N : Nat) (l : List Gr) (i : Nat) (hl : l.length ≤ 1000) (h : i < l.length) : W_net_Comes N (l, (i : Int)) = some (l.take i ++ l.drop (i + 1), true, l.getD i gD) := by
  unfold W_net_Comes
  simp only [Lost_yes N l i hl h, obind_s]
  rw [Bool.not_true, cnd_f, dT (by omega), dT (by omega), Bool.and_self, cnd_t, Int.toNat_natCast]
theorem cnd_T {α : Type} {p : Prop} {i : Decidable p} {x y : α} (h : p) : cnd (@decide p i) x y = x := by rw [decide_eq_true h]; rfl
theorem cnd_F {α : Type} {p : Prop} {i : Decidable p} {x y : α} (h : ¬ p) : cnd (@decide p i) x y = y := by rw [decide_eq_false h]; rfl
theorem loop_ex2 {σ α β ε : Type} {f : σ → Option (σ ⊕ ((α × β) ⊕ ε))} {x : σ} {N : Nat} (I : σ → Prop) (m : σ → Nat) (P : α → β → Prop) (hx : I x) (hm : m x < N)
    (hs : ∀ x, I x → (∃ y, f x = some (.inl y) ∧ I y ∧ m y < m x) ∨ ∃ a b, f x = some (.inr (.inl (a, b))) ∧ P a b) : ∃ a b, loopN N f x = some (.inl (a, b)) ∧ P a b := by
  obtain ⟨r, h1, a, b, rfl, h3⟩ := loopN_run (N := N) (f := f) I m (fun r => ∃ a b, r = .inl (a, b) ∧ P a b) (fun x hx => by
    rcases hs x hx with h | ⟨a, b, h1, h2⟩
    · exact .inl h
    · exact .inr ⟨_, h1, a, b, rfl, h2⟩) x hx hm
  exact ⟨a, b, h1, h3⟩
def cat (l : List Gr) : List UInt8 := l.flatMap (fun g => g.2.1)
theorem Comes0 (N : Nat) (l : List Gr) (hl : l.length ≤ 1000) : W_net_Comes N (l, 0) = some (l.tail, decide ((0 : Int) < l.length), l.headD gD) := by
  cases l with
  | nil => exact Comes_no N [] 0 hl (by simp)
  | cons g r => 
    have := Comes_yes N (g :: r) 0 hl (by simp)
    simpa using this
theorem cat_tail (l : List Gr) (c : List UInt8) : c ++ (l.headD gD).2.1 ++ cat l.tail = c ++ cat l := by
  cases l with
  | nil => simp [cat]
  | cons g r => simp [cat]
theorem law_aux (N : Nat) (hN : 100 ≤ N) (x y : List Int) (hx : ∀ j : Nat, 0 ≤ x.getD j 0 ∧ x.getD j 0 ≤ 255) (hy : ∀ j : Nat, 0 ≤ y.getD j 0 ∧ y.getD j 0 ≤ 255) : W_law13_NetOrder N (x, y) = some true := by
  unfold W_law13_NetOrder
  simp only
  by_cases c1 : (50 : Int) < x.length
  · rw [dT c1, cnd_t]
  rw [dF c1, cnd_f]
  by_cases c2 : (50 : Int) < y.length
  · rw [dT c2, cnd_t]
  rw [dF c2, cnd_f]
  refine obind_loop (fun v : List Gr × List UInt8 × List UInt8 × Int => ∃ i : Nat, v.2.2.2 = i ∧ i ≤ x.length ∧ v.1.length ≤ i ∧ v.2.1.length ≤ i ∧ v.2.2.1 ++ cat v.1 = v.2.1) (fun v => x.length - v.2.2.2.toNat)
    (fun r : (List Gr × List UInt8 × List UInt8) ⊕ Bool => ∃ f s c, r = .inl (f, s, c) ∧ f.length ≤ 50 ∧ s.length ≤ 50 ∧ c ++ cat f = s) ⟨0, rfl, by omega, by simp, by simp, by simp [cat]⟩ (by simp; omega) ?_ ?_
  · rintro r ⟨f, s, c, rfl, g1, g2, g3⟩
    rw [selim_l]
    simp only
    refine obind_loop (fun v : List Gr × List UInt8 × Int => 0 ≤ v.2.2 ∧ v.1.length + v.2.2 ≤ 50 ∧ v.2.1 ++ cat v.1 = s) (fun v => v.1.length)
      (fun r : (List Gr × List UInt8) ⊕ Bool => r = .inl ([], s)) ⟨by simp, by simp; omega, g3⟩ (by simp; omega) ?_ ?_
    · rintro r rfl
      rw [selim_l]
      simp only [BEq.rfl, cnd_t]
      rfl
    · rintro ⟨f, c, i⟩ ⟨q1, q2, q3⟩
      simp only at q1 q2 q3 ⊢
      rw [dT (show i < (60 : Int) by omega), cnd_t]
      cases f with
      | nil =>
        right
        rw [dF (by simp), cnd_f]
        have : c = s := by simpa [cat] using q3
        subst this
        exact ⟨_, rfl, rfl⟩
      | cons g r =>
        left
        have hcl : c.length ≤ s.length := by rw [← q3]; simp
        have hgl : g.2.1.length ≤ s.length := by rw [← q3]; simp [cat]; omega
        simp only [List.length_cons] at q2
        rw [dT (by simp only [List.length_cons]; omega), cnd_t, Comes0 N _ (by simp only [List.length_cons]; omega), obind_s]
        simp only [List.tail_cons, List.headD_cons]
        have w1 : wr .i64 ((((g :: r).length : Nat) : Int) - 1) = r.length := by rw [wr_m (by simp only [List.length_cons]; omega) (by simp only [List.length_cons]; omega)]; simp only [List.length_cons]; omega
        have d1 : decide ((0 : Int) < (((g :: r).length : Nat) : Int)) = true := dT (by simp only [List.length_cons]; omega)
        rw [d1, Bool.not_true, cnd_f, w1]
        refine ⟨(r, c ++ g.2.1, i + 1), (cnd_F (by simp)).trans ?_, ⟨show 0 ≤ i + 1 by omega, show (r.length : Int) + (i + 1) ≤ 50 by omega, ?_⟩, show r.length < (g :: r).length by simp⟩
        · refine (cnd_T (show c.length + g.2.1.length ≤ 9223372036854775807 by omega)).trans ?_
          rw [wr_m (by omega) (by omega)]
        have := cat_tail (g :: r) c
        simp only [List.headD_cons, List.tail_cons] at this
        exact this.trans q3
  · rintro ⟨f, s, c, v⟩ ⟨i, hi, h1, h2, h3, h4⟩
    simp only at hi h1 h2 h3 h4 ⊢
    subst hi
    by_cases hlt : (i : Int) < x.length
    case neg => right; rw [dF hlt, cnd_f]; exact ⟨_, rfl, f, s, c, rfl, by omega, by omega, h4⟩
    left
    have hb := hx i
    have hby := hy i
    have w1 : wr .u8 (97 + Int.tmod (x.getD i 0) 26) = 97 + x.getD i 0 % 26 := by
      rw [Int.tmod_eq_emod_of_nonneg hb.1, wr_u8 (by omega) (by omega)]
    have hall : List.all [97 + x.getD i 0 % 26] (fun (n : Int) => decide ((0 : Int) ≤ n) && decide (n < (256 : Int))) = true := by
      simp only [List.all_cons, List.all_nil, Bool.and_true, Bool.and_eq_true, decide_eq_true_eq]; omega
    have w2 : wr .i64 ((i : Int) + 1) = ((i + 1 : Nat) : Int) := by rw [wr_m (by omega) (by omega)]; omega
    have w3 : wr .i64 (Int.tmod (y.getD i 0) 3) = y.getD i 0 % 3 := by rw [Int.tmod_eq_emod_of_nonneg hby.1, wr_m (by omega) (by omega)]
    rw [dT hlt, cnd_t, dT (Int.natCast_nonneg i), Bool.and_self, cnd_t, Int.toNat_natCast, w1, hall, cnd_t, w2, w3]
    clear w1 w2 w3 hall
    rw [Send_eq N f _ (by omega), if_neg (show ¬ 60 ≤ f.length by omega), obind_s]
    have hbl : (bytesI [97 + x.getD i 0 % 26]).length = 1 := by simp [bytesI]
    rw [dT (by rw [hbl]; omega), cnd_t]
    generalize hb1 : bytesI [97 + x.getD i 0 % 26] = b1 at *
    have hc : c ++ cat (f ++ [((1 : Int), b1, false)]) = s ++ b1 := by rw [← h4]; simp [cat]
    suffices hS : ∃ f' c' : _, obind (loopN N (fun (v_1 : List Gr × List UInt8 × Int) =>
        cnd (decide ((i : Int) < (↑(List.length y) : Int)))
          (cnd (decide ((0 : Int) ≤ (i : Int)) && decide ((i : Int) < (↑(List.length y) : Int)))
            (cnd (decide (Prod.snd (Prod.snd v_1) < y.getD i 0 % 3))
              (obind (W_net_Comes N (Prod.fst v_1, (0 : Int))) fun (b : List Gr × Bool × Int × List UInt8 × Bool) =>
                cnd (!Prod.fst (Prod.snd b) == decide ((0 : Int) < (↑(List.length (Prod.fst v_1)) : Int)))
                  (some (Sum.inr (Sum.inr false)))
                  (cnd (decide (List.length (Prod.fst (Prod.snd v_1)) + List.length (Prod.fst (Prod.snd (Prod.snd (Prod.snd b)))) ≤ (9223372036854775807 : Nat)))
                    (some (Sum.inl (Prod.fst b, Prod.fst (Prod.snd v_1) ++ Prod.fst (Prod.snd (Prod.snd (Prod.snd b))), wr IntKind.i64 (Prod.snd (Prod.snd v_1) + (1 : Int)))))
                    none))
              (some (Sum.inr (Sum.inl (Prod.fst v_1, Prod.fst (Prod.snd v_1))))))
            none)
          (some (Sum.inr (Sum.inl (Prod.fst v_1, Prod.fst (Prod.snd v_1)))))) (f ++ [((1 : Int), b1, false)], c, (0 : Int)))
        (fun (b : List Gr × List UInt8 ⊕ Bool) =>
                      selim
                        (fun (b : List Gr × List UInt8) =>
                          some (Sum.inl (Prod.fst b, s ++ b1, Prod.snd b, ((i + 1 : Nat) : Int))))
                        (fun (c : Bool) => some (Sum.inr (Sum.inr c : (List Gr × List UInt8 × List UInt8) ⊕ Bool))) b) = some (.inl (f', s ++ b1, c', ((i + 1 : Nat) : Int))) ∧ f'.length ≤ i + 1 ∧ c' ++ cat f' = s ++ b1 by
      obtain ⟨f', c', e1, e2, e3⟩ := hS
      exact ⟨_, e1, ⟨i + 1, rfl, by omega, by simp only; omega, by simp only [List.length_append, hbl]; omega, e3⟩, by simp only; omega⟩
    have hin : ∃ f' c' : _, loopN N (fun (v_1 : List Gr × List UInt8 × Int) =>
        cnd (decide ((i : Int) < (↑(List.length y) : Int)))
          (cnd (decide ((0 : Int) ≤ (i : Int)) && decide ((i : Int) < (↑(List.length y) : Int)))
            (cnd (decide (Prod.snd (Prod.snd v_1) < y.getD i 0 % 3))
              (obind (W_net_Comes N (Prod.fst v_1, (0 : Int))) fun (b : List Gr × Bool × Int × List UInt8 × Bool) =>
                cnd (!Prod.fst (Prod.snd b) == decide ((0 : Int) < (↑(List.length (Prod.fst v_1)) : Int)))
                  (some (Sum.inr (Sum.inr false)))
                  (cnd (decide (List.length (Prod.fst (Prod.snd v_1)) + List.length (Prod.fst (Prod.snd (Prod.snd (Prod.snd b)))) ≤ (9223372036854775807 : Nat)))
                    (some (Sum.inl (Prod.fst b, Prod.fst (Prod.snd v_1) ++ Prod.fst (Prod.snd (Prod.snd (Prod.snd b))), wr IntKind.i64 (Prod.snd (Prod.snd v_1) + (1 : Int)))))
                    none))
              (some (Sum.inr (Sum.inl (Prod.fst v_1, Prod.fst (Prod.snd v_1))))))
            none)
          (some (Sum.inr (Sum.inl (Prod.fst v_1, Prod.fst (Prod.snd v_1)))))) (f ++ [((1 : Int), b1, false)], c, (0 : Int)) = some (.inl (f', c') : (List Gr × List UInt8) ⊕ Bool) ∧ f'.length ≤ i + 1 ∧ c' ++ cat f' = s ++ b1 := by
      have hsb : (s ++ b1).length ≤ 60 := by simp only [List.length_append, hbl]; omega
      refine loop_ex2 (N := N) (x := (f ++ [((1 : Int), b1, false)], c, (0 : Int))) (fun v : List Gr × List UInt8 × Int => 0 ≤ v.2.2 ∧ v.2.2 ≤ 3 ∧ v.1.length ≤ i + 1 ∧ v.2.1 ++ cat v.1 = s ++ b1) (fun v => 3 - v.2.2.toNat) (fun f' c' => f'.length ≤ i + 1 ∧ c' ++ cat f' = s ++ b1)
        ⟨show (0 : Int) ≤ 0 by omega, show (0 : Int) ≤ 3 by omega, ?_, hc⟩ (by show 3 - Int.toNat 0 < N; omega) (fun v hv => ?_)
      · show (f ++ [((1 : Int), b1, false)]).length ≤ i + 1
        rw [List.length_append, List.length_singleton]; omega
      · obtain ⟨f, c, k⟩ := v
        obtain ⟨q1, q2, q3, q4⟩ := hv
        simp only at q1 q2 q3 q4 ⊢
        by_cases hiy : (i : Int) < y.length
        case neg => right; rw [dF hiy, cnd_f]; exact ⟨f, c, rfl, q3, q4⟩
        rw [dT hiy, cnd_t, dT (by omega), Bool.and_self, cnd_t]
        by_cases hk : k < y.getD i 0 % 3
        case neg => right; rw [dF hk, cnd_f]; exact ⟨f, c, rfl, q3, q4⟩
        left
        rw [dT hk, cnd_t, Comes0 N f (by omega), obind_s]
        simp only [BEq.rfl, Bool.not_true, cnd_f]
        have hlen : (c ++ (f.headD gD).2.1).length ≤ (s ++ b1).length := by
          rw [← q4, ← cat_tail f c]; simp only [List.length_append]; omega
        simp only [List.length_append] at hlen hsb
        rw [dT (by omega), cnd_t, wr_m (by omega) (by omega)]
        refine ⟨(f.tail, c ++ (f.headD gD).2.1, k + 1), rfl, ⟨show 0 ≤ k + 1 by omega, show k + 1 ≤ 3 by omega, ?_, (cat_tail f c).trans q4⟩, show 3 - (k + 1).toNat < 3 - k.toNat by omega⟩
        show f.tail.length ≤ i + 1
        rw [List.length_tail]; omega
    obtain ⟨f', c', e1, e2, e3⟩ := hin
    exact ⟨f', c', by rw [e1, obind_s, selim_l], e2, e3⟩
theorem Twf_u8 {l : List Int} (h : Twf (.list (.int .u8)) l) : ∀ j : Nat, 0 ≤ l.getD j 0 ∧ l.getD j 0 ≤ 255 := by
  intro j
  rw [List.getD_eq_getElem?_getD]
  by_cases hj : j < l.length
  · rw [List.getElem?_eq_getElem hj]
    have := h.2 _ (List.getElem_mem hj)
    exact this
  · rw [List.getElem?_eq_none (by omega)]; simp
def NN : Nat := 100
theorem law_true (y0 : List Int) (y1 : List Int) (h0 : Twf (.list (.int .u8)) y0) (h1 : Twf (.list (.int .u8)) y1) : W_law13_NetOrder NN (y0, y1) = some true := law_aux NN (Nat.le_refl _) y0 y1 (Twf_u8 h0) (Twf_u8 h1)

theorem spec (y0 : List Int) (y1 : List Int) (h0 : Twf (.list (.int .u8)) y0) (h1 : Twf (.list (.int .u8)) y1) : Spec2 P0 9 [valW (.list (.int .u8)) y0, valW (.list (.int .u8)) y1] [] (.bs true) [] [] := (con_law13_NetOrder_ok NN).2 (y0, y1) true (law_true y0 y1 h0 h1)
theorem lifted (os : Os) (started : os.Started) (H : Type) (enc : TypeId × Value → H) :
    ReturnsInHanded {} Try.checked os 9 .any (Rows.netOrderSpec.pre6 enc Try.prog Try.f9 Rows.netOrderRow.domain false) (Rows.netOrderSpec.post enc Try.prog Try.f9 false true false false) := by
  refine returnsInHanded_of_change (C := Try.checked) own started (by kernel_rfl) Try.func9
    (ChangeSpec.witness6 (enc := enc) (C := Try.checked) false ⟨#[], #[.slice none 0 0, .slice none 0 0], []⟩ 8 (by kernel_rfl) (by kernel_rfl) (by kernel_rfl) (by kernel_rfl)) ?_
  intro W base args ds gs before hval0 hW hcnd _
  have hval : ∀ (j : Nat) t v, Try.f9.params[j]? = some t → args[j]? = some v → Value.okWide Try.prog W .any base t v := hval0
  have hW' := hW
  obtain ⟨p, q, hA0, hV, rfl, hfz, hnd⟩ := hW
  have hA : DataW.TrodAll enc Try.prog W 0 (fun _ => true) true Try.f9.params.toList args.toList ds p := hA0
  rw [Try.params9] at hA hval
  obtain ⟨v0, vs0, d0, ds0, p0, q0, hargs, rfl, rfl, h0, r0⟩ := trodAll_cons hA
  obtain ⟨v1, vs1, d1, ds1, p1, q1, rfl, rfl, rfl, h1, r1⟩ := trodAll_cons r0
  obtain ⟨rfl, rfl, rfl⟩ := trodAll_nil r1
  obtain rfl : args = #[v0, v1] := by cases args; simp_all
  obtain ⟨rfl, rfl⟩ := trodVars_none hV
  have k0 := h0
  have lt0 : ∀ x ∈ p0, x.block < W.heap.size := by obtain ⟨m, hm⟩ := k0; exact DataW.trod_lt m _ _ _ hm
  obtain ⟨y0, rp0, wf0⟩ := arg_ok (n := 12) (ty := (.list (.int .u8))) (by kernel_rfl) (hval 0 _ v0 rfl rfl) h0
  have k1 := h1
  have lt1 : ∀ x ∈ p1, x.block < W.heap.size := by obtain ⟨m, hm⟩ := k1; exact DataW.trod_lt m _ _ _ hm
  obtain ⟨y1, rp1, wf1⟩ := arg_ok (n := 12) (ty := (.list (.int .u8))) (by kernel_rfl) (hval 1 _ v1 rfl rfl) h1
  clear hA0 hval0
  refine (law_of2 (spec y0 y1 wf0 wf1) W #[v0, v1] (.cons rp0 (.cons rp1 .nil))).mono fun e W' ⟨he, bel⟩ => ?_
  subst he
  exact ⟨_, rfl, _, _, _, [], _, [], hW', trodAll_mk1 (shut_bool Try.underlying4 _), (trodAll_cons_mk (Below.trod laidOut (by kernel_rfl) (of_decide_eq_true (by kernel_rfl)) k0 bel lt0) (trodAll_cons_mk (Below.trod laidOut (by kernel_rfl) (of_decide_eq_true (by kernel_rfl)) k1 bel lt1) trodAll_mk0)), rfl, bel.frame _, fun h => by cases h⟩

theorem over : Rows.netOrderRow.holds Try.pinned (OpenSpec.ofChange Rows.netOrderSpec) :=
  OpenClaim.holds_of_wide 9 Try.f9 rfl rfl rfl rfl rfl rfl rfl ⟨rfl, rfl, rfl, rfl, rfl⟩ rfl rfl rfl rfl rfl (by kernel_rfl) Try.func9 (by kernel_rfl)
    (of_decide_eq_true (by kernel_rfl)) (by unfold Func.isWrapper; first | (rw [if_pos (by decide +kernel)]; kernel_rfl) | (rw [if_neg (by decide +kernel)]; exact ⟨rfl, rfl⟩))
    (fun os started H enc _ => lifted os started H enc)

theorem holds : Rows.NetOrderSaid := over
end Go.Proofs.Ytnkalddmjdicfaa.netOrderX
