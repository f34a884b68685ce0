/- NetMade: for all arguments the call returns true. The law is brought to a function of Lean's own (W_..) by the machine of the texts beside it, and that is reckoned; no condition. -/
import Derived.Test.YtnkalddmjdicfaaExtDl
import Derived.Test.YtnkalddmjdicfaaExtL
import Derived.Test.YtnkalddmjdicfaaRows
import Derived.WalkKit
import Derived.ProofKit
import Derived.OpenShut
import Derived.ShutString
import Derived.ChangeOld
import Derived.Below
import Derived.Shelf.RegionOpenPlain
import Derived.Deep.RegionLaw
import Derived.Lib.Walk
namespace Go.Proofs.Ytnkalddmjdicfaa.netMadeX
open Go.Abs Go.RowKit Go.ChangeShapes Go.WideShapes Go.ChangeAt
set_option maxRecDepth 100000
set_option linter.unusedVariables false
set_option linter.unusedSimpArgs false
noncomputable abbrev P0 : Program := Try.prog
noncomputable def bodyOf (fn : Func) : Code := fn.body.getD .skip
def L0 : Lend := fun f => aget [] [(73, [0])] f
def kpL (l : List Bool) : Nat → Bool := fun j => l.getD j true
theorem own : ownKnob Try.prog.godebug = none := by kernel_rfl
theorem laidOut : laidOutB Try.prog = true := by kernel_rfl
theorem mixed : P0.follows .mixedOrders = true := by decide +kernel
theorem progOk_ : progOk P0 = true := by decide +kernel

theorem delU73 : Try.prog.underlying 46 = some (.slice 45) := by kernel_rfl
theorem delE73 : ∃ (inf : TypeInfo) (z : Value), Try.prog.info? 45 = some inf ∧ inf.size = 3 ∧ inf.zero = some z ∧ z.cells.size = 3 ∧ (∀ u ∈ z.cells.toList, u.oneCell' = true) := delE_of (by kernel_rfl)
set_option maxHeartbeats 4000000 in
theorem delW73 {inf : TypeInfo} {z : Value} (hinf : Try.prog.info? 45 = some inf) (hsz : inf.size = 3) (hzz : inf.zero = some z) (hzs : z.cells.size = 3) (hz1 : ∀ u ∈ z.cells.toList, u.oneCell' = true) (w : World) (b i k c : Nat) (arr : Array Value) (tb : Nat) (fz : Nat × Nat) (cs : List Value) (hmem : w.heap[b]? = some (.cells arr tb fz)) (hf : ∀ j, j < arr.size → ¬ (fz.1 ≤ j ∧ j < fz.2))
    (hi : i < k + 1) (hnc : k + 1 ≤ c) (hn : k + 1 ≤ 140737488355328) (hsize : arr.size = c * 3) (hcs : cs = (arr.toList.take ((k + 1) * 3)).drop ((i + 1) * 3)) (h1c : ∀ u ∈ cs, u.oneCell' = true) (A1 A2 : Array Value)
    (hA1 : A1 = (arr.toList.take (i * 3) ++ (cs ++ arr.toList.drop (i * 3 + cs.length))).toArray) (hA2 : A2 = (A1.toList.take (k * 3) ++ (z.cells.toList ++ A1.toList.drop (k * 3 + z.cells.toList.length))).toArray) :
    Calls Try.prog 73 #[.slice (some ⟨b, 0, none⟩) (k + 1) c, .int .i64 (i : Nat), .int .i64 ((i : Int) + 1)] w fun e w' => e = .returned (.slice (some ⟨b, 0, none⟩) k c) ∧ w' = (w.drew.setRow b A1).setRow b A2 := by
  have mixed := mixed
  have hz2 : ¬ ((i : Int) = (i : Int) + 1) := by omega
  have hcl : cs.length = (k - i) * 3 := by rw [hcs]; simp; omega
  have hA1s : A1.size = arr.size := by rw [hA1]; simp [hcl]; omega
  obtain ⟨Ad, hA, hsrc⟩ : ∃ Ad : Addr, (if c = i + 1 then (some ⟨b, 0, none⟩ : Option Addr) else some ⟨b, (i + 1) * 3, none⟩) = some Ad ∧ (∀ (t : Nat) (u : Value), cs[t]? = some u → w.drew.cell? (Ad.add t) = some u) := by
    by_cases h : c = i + 1
    · refine ⟨⟨b, 0, none⟩, by simp [h], fun t u hu => ?_⟩
      have h0 : cs = [] := List.eq_nil_of_length_eq_zero (by rw [hcl, show k - i = 0 by omega, Nat.zero_mul])
      rw [h0] at hu; simp at hu
    · refine ⟨⟨b, (i + 1) * 3, none⟩, by simp [h], fun t u hu => ?_⟩
      rw [hcs, List.getElem?_drop, List.getElem?_take] at hu
      split at hu
      · rw [Addr.add_lit]
        have e : w.drew.cell? ⟨b, (i + 1) * 3 + t, none⟩ = arr[(i + 1) * 3 + t]? := by simp [World.cell?, show w.drew.heap = w.heap from rfl, hmem]
        rw [e]; simpa using hu
      · cases hu
  obtain ⟨W1, hW1⟩ : ∃ W1, W1 = w.drew.setRow b A1 := ⟨_, rfl⟩
  have hm1 : W1.heap[b]? = some (.cells A1 tb fz) := by rw [hW1]; exact setRow_heap w.drew b arr A1 tb fz hmem
  have hap : ∀ ty m' c', m' = k - i → (Builtin.append_ #[46, 46] ty #[.slice (some ⟨b, 0, none⟩) i c, .slice (some Ad) m' c']).run Try.prog w.drew = .ok (.slice (some ⟨b, 0, none⟩) k c) W1 := fun ty m' c' hm => by
    subst hm
    have h := run_appendR (P := Try.prog) delU73 hinf w.drew hmem hf i c ty Ad (k - i) c' cs (by rw [hsz]; exact hcl) hsrc h1c (by omega) (by rw [hsize, hsz])
    rw [hsz] at h
    rw [h, hW1, hA1, show i + (k - i) = k by omega]
  have hclr : ∀ ty m' c', m' = 1 → (Builtin.clear_ #[46] ty #[.slice (some ⟨b, k * 3, none⟩) m' c']).run Try.prog W1 = .ok (.tuple #[]) (W1.setRow b A2) := fun ty m' c' hm => by
    subst hm
    rw [hA2]
    exact run_clearR (P := Try.prog) delU73 hinf hzz W1 hm1 (by rw [hA1s]; exact hf) (k * 3) c' ty hz1 (by simp [hzs]; rw [hA1s, hsize]; omega)
  have hic : i ≤ c := by omega
  have hjc : i + 1 ≤ c := by omega
  have hb3 : ¬ (c = k) := by omega
  have hb1 : (0 : Int) ≤ (i : Int) + 1 := by omega
  have hb4 : ((k + 1 : Nat) : Int) = (k : Int) + 1 := by omega
  have hb5 : (0 : Int) ≤ (k : Int) := by omega
  have hb6 : (k : Int) ≤ (k : Int) + 1 := by omega
  have hb7 : (k : Int) + 1 ≤ (c : Int) := by omega
  have hb8 : (i : Int) + 1 ≤ (k : Int) + 1 := by omega
  have hb2 : (i : Int) + 1 ≤ ((k + 1 : Nat) : Int) := by omega
  rw [← hW1]
  clear hcs hA1 hA2 hW1 hm1 hsrc hcl
  go_enter Try.func73, Try.ntmps73
  go_wp2_with fail
  go_region_law_o (refine step_append_runR rfl _ _ 46 46 rfl (.slice (some ⟨b, 0, none⟩) i c) (.slice (some Ad) (k - i) (c - (i + 1))) (by simp [Act.eval, Act.put]) (by simp [Act.eval, Act.put]) (hap _ _ _ rfl) ?_)
  go_wp2
  go_ret
  exact ⟨rfl, rfl⟩
theorem delF73 : DelF Try.prog 73 3 := by
  intro w b i n c arr tb fz hmem hsize hf h1c hi hnc hn
  obtain ⟨inf, z, hinf, hsz, hzz, hzs, hz1⟩ := delE73
  obtain ⟨k, rfl⟩ : ∃ k, n = k + 1 := ⟨n - 1, by omega⟩
  simp only [Nat.add_sub_cancel]
  obtain ⟨cs, hcs⟩ : ∃ cs, cs = (arr.toList.take ((k + 1) * 3)).drop ((i + 1) * 3) := ⟨_, rfl⟩
  have hsl : arr.toList.length = arr.size := Array.length_toList
  have hcl : cs.length = (k - i) * 3 := by rw [hcs, List.length_drop, List.length_take, hsl, hsize]; omega
  have hzl : z.cells.toList.length = 3 := by rw [Array.length_toList, hzs]
  refine (delW73 hinf hsz hzz hzs hz1 w b i k c arr tb fz cs hmem hf hi hnc hn hsize hcs (fun u hu => h1c u (by rw [hcs] at hu; exact List.mem_of_mem_drop hu)) _ _ rfl rfl).mono fun x w' => ?_
  rintro ⟨rfl, rfl⟩
  have hA1s : (arr.toList.take (i * 3) ++ (cs ++ arr.toList.drop (i * 3 + cs.length))).toArray.size = arr.size := by simp [hcl]; omega
  have hm1 := setRow_heap w.drew b arr (arr.toList.take (i * 3) ++ (cs ++ arr.toList.drop (i * 3 + cs.length))).toArray tb fz hmem
  have hA1t : (arr.toList.take (i * 3) ++ (cs ++ arr.toList.drop (i * 3 + cs.length))).toArray.toList.take (k * 3) = arr.toList.take (i * 3) ++ cs := by
    rw [List.toList_toArray, ← List.append_assoc]
    exact List.take_left' (by rw [List.length_append, List.length_take, hcl, hsl, hsize]; omega)
  generalize hA1 : (arr.toList.take (i * 3) ++ (cs ++ arr.toList.drop (i * 3 + cs.length))).toArray = A1 at *
  have hA1l : A1.toList.length = A1.size := Array.length_toList
  have hA2s : (A1.toList.take (k * 3) ++ (z.cells.toList ++ A1.toList.drop (k * 3 + z.cells.toList.length))).toArray.size = A1.size := by simp only [List.size_toArray, List.length_append, List.length_take, List.length_drop, hzl, hA1l, hA1s, hsize]; omega
  have hm2 := setRow_heap (w.drew.setRow b A1) b A1 (A1.toList.take (k * 3) ++ (z.cells.toList ++ A1.toList.drop (k * 3 + z.cells.toList.length))).toArray tb fz hm1
  refine ⟨rfl, rfl, rfl, rfl, _, hm2, by rw [hA2s, hA1s], ?_, by simp [World.setRow], fun j hj => ?_⟩
  · rw [List.toList_toArray, List.take_left' (by rw [List.length_take, hA1l, hA1s, hsize]; omega), hA1t, hcs]
  · rw [setRow_other _ _ _ _ hj, setRow_other _ _ _ _ hj]; rfl

noncomputable def con_law13_begun (N : Nat) : Con := ⟨31, [], [], Unit, fun _ => some (), fun _ => (.bs true, [], [])⟩
theorem con_law13_begun_ok (N : Nat) : Con.ok P0 (con_law13_begun N) := closed_con2 (nonJ_ok _) mixed progOk_ (noneΞ_ok2 _) (inl := [73]) (breath := 100000) (n := 60) (by kernel_rfl)
def as_slices_Clone_api_Gram : List AS := [.val (.list (.agg (.pair (.int .i64) (.pair .str .bool))))]
def bs_slices_Clone_api_Gram : List BS := []
def pout_slices_Clone_api_Gram : Pat := ⟨[(2, .acc 700005)], [(700005, .nrow 45 (.agg (.pair (.int .i64) (.pair .str .bool))) false true)]⟩
noncomputable def G_slices_Clone_api_Gram  (N : Nat) : OrcT := orcOf []
noncomputable def F_slices_Clone_api_Gram  (N : Nat) (x : List (Int × (List UInt8) × Bool)) : Option (List (Int × (List UInt8) × Bool)) :=
  (evT (G_slices_Clone_api_Gram  N) L0 P0 []
    [] N 400 (bodyOf Try.f71) ⟨8, slots 0 [.nl ⟨(.agg (.pair (.int .i64) (.pair .str .bool))), x⟩], tabU (lbOf as_slices_Clone_api_Gram bs_slices_Clone_api_Gram x) [], []⟩).elim (kRet 8 pout_slices_Clone_api_Gram (kpL []) (lbOf as_slices_Clone_api_Gram bs_slices_Clone_api_Gram x))
def out_slices_Clone_api_Gram (y : List (Int × (List UInt8) × Bool)) : V × List OK × List OK := (.acc 2000000 0, [], [.nrow 45 false true ⟨(.agg (.pair (.int .i64) (.pair .str .bool))), y⟩])
noncomputable def V_slices_Clone_api_Gram  (N : Nat) (x : List (Int × (List UInt8) × Bool)) : Option (List (Int × (List UInt8) × Bool)) :=
  cnd (decide (List.length x * (32 : Nat) ≤ (140737488355328 : Nat))) (some x) none
theorem FV_slices_Clone_api_Gram_eq  (N : Nat) (x : List (Int × (List UInt8) × Bool)) : F_slices_Clone_api_Gram  N x = V_slices_Clone_api_Gram  N x := by kernel_rfl
noncomputable def W_slices_Clone_api_Gram (N : Nat) (x : List (Int × (List UInt8) × Bool)) : Option (List (Int × (List UInt8) × Bool)) :=
  cnd (decide (List.length x * (32 : Nat) ≤ (140737488355328 : Nat))) (some x) none
theorem F_slices_Clone_api_Gram_eq (N : Nat) (x : List (Int × (List UInt8) × Bool)) : F_slices_Clone_api_Gram  N x = W_slices_Clone_api_Gram N x := (FV_slices_Clone_api_Gram_eq  N x).trans (by kernel_rfl)
noncomputable def conw_slices_Clone_api_Gram (w : List (Int × (List UInt8) × Bool) → Option (List (Int × (List UInt8) × Bool))) : Con := ⟨71, as_slices_Clone_api_Gram, bs_slices_Clone_api_Gram, List (Int × (List UInt8) × Bool), w, out_slices_Clone_api_Gram⟩
noncomputable def con_slices_Clone_api_Gram (N : Nat) : Con := conw_slices_Clone_api_Gram (W_slices_Clone_api_Gram N)
theorem R_slices_Clone_api_Gram_eq (x : List (Int × (List UInt8) × Bool)) (y : List (Int × (List UInt8) × Bool)) : retOf2 P0 Try.f71 (kpL []) (lbOf as_slices_Clone_api_Gram bs_slices_Clone_api_Gram x) (patS ⟨8, [], [], []⟩ pout_slices_Clone_api_Gram y) = some (out_slices_Clone_api_Gram y) := by kernel_rfl
noncomputable def FA_slices_Clone_api_Gram : Option (List (Int × (List UInt8) × Bool)) := (evT (G_slices_Clone_api_Gram 1) L0 P0 [] [] 1 400 (bodyOf Try.f71) ⟨8, slots 0 [.snil], tabU [] [], []⟩).elim (kRet 8 pout_slices_Clone_api_Gram (kpL []) [])
theorem FA_slices_Clone_api_Gram_eq : FA_slices_Clone_api_Gram = some [] := by kernel_rfl
theorem WN_slices_Clone_api_Gram (N : Nat) (r : List (Int × (List UInt8) × Bool)) (h : W_slices_Clone_api_Gram N [] = some r) : r = [] := by
  have e : W_slices_Clone_api_Gram N [] = some [] := by kernel_rfl
  rw [e] at h; injection h with h; exact h.symm
theorem con_slices_Clone_api_Gram_ok (N : Nat) : Con.ok P0 (con_slices_Clone_api_Gram N) := ⟨⟨Try.f71, Try.func71, by kernel_rfl, by kernel_rfl⟩, fun (x : List (Int × (List UInt8) × Bool)) (r : List (Int × (List UInt8) × Bool)) (hr : W_slices_Clone_api_Gram N x = some r) =>
  clone_split (e := (.agg (.pair (.int .i64) (.pair .str .bool)))) (ty := 45) (l := x) (r := r)
    (spec2_evT (Γ := G_slices_Clone_api_Gram 1) (Λ := L0) (lb := []) (pout := pout_slices_Clone_api_Gram) (kp := kpL []) mixed (orcOf_ok [] (by simp)) Try.func71 (c := bodyOf Try.f71) (by kernel_rfl) (by kernel_rfl) (of_decide_eq_true (by kernel_rfl)) FA_slices_Clone_api_Gram_eq (R_slices_Clone_api_Gram_eq x []))
    (spec2_evT (Γ := G_slices_Clone_api_Gram N) (Λ := L0) (lb := []) (pout := pout_slices_Clone_api_Gram) (kp := kpL []) mixed (orcOf_ok [] (by simp)) Try.func71 (c := bodyOf Try.f71) (by kernel_rfl) (by kernel_rfl) (of_decide_eq_true (by kernel_rfl)) ((F_slices_Clone_api_Gram_eq N x).trans hr) (R_slices_Clone_api_Gram_eq x r))
    (fun h => by subst h; exact WN_slices_Clone_api_Gram N r hr)⟩
def as_net_Send : List AS := [.val (.list (.agg (.pair (.int .i64) (.pair .str .bool)))), .val (.agg (.pair (.int .i64) (.pair .str .bool)))]
def bs_net_Send : List BS := []
def pout_net_Send : Pat := ⟨[(4, .val (.list (.agg (.pair (.int .i64) (.pair .str .bool)))))], []⟩
noncomputable def G_net_Send (w_slices_Clone_api_Gram : List (Int × (List UInt8) × Bool) → Option (List (Int × (List UInt8) × Bool))) (N : Nat) : OrcT := orcOf [conw_slices_Clone_api_Gram w_slices_Clone_api_Gram]
noncomputable def F_net_Send (w_slices_Clone_api_Gram : List (Int × (List UInt8) × Bool) → Option (List (Int × (List UInt8) × Bool))) (N : Nat) (x : (List (Int × (List UInt8) × Bool)) × Int × (List UInt8) × Bool) : Option (List (Int × (List UInt8) × Bool)) :=
  (evT (G_net_Send w_slices_Clone_api_Gram N) L0 P0 []
    [] N 400 (bodyOf Try.f32) ⟨16, slots 0 (argsOf as_net_Send bs_net_Send x), tabU (lbOf as_net_Send bs_net_Send x) [], []⟩).elim (kRet 16 pout_net_Send (kpL []) (lbOf as_net_Send bs_net_Send x))
def out_net_Send (y : List (Int × (List UInt8) × Bool)) : V × List OK × List OK := (valW (.list (.agg (.pair (.int .i64) (.pair .str .bool)))) y, [], [])
noncomputable def V_net_Send (w_slices_Clone_api_Gram : List (Int × (List UInt8) × Bool) → Option (List (Int × (List UInt8) × Bool))) (N : Nat) (x : (List (Int × (List UInt8) × Bool)) × Int × (List UInt8) × Bool) : Option (List (Int × (List UInt8) × Bool)) :=
  obind (w_slices_Clone_api_Gram (Prod.fst x)) fun (b : List (Int × List UInt8 × Bool)) =>
    cnd (decide ((60 : Int) ≤ (↑(List.length (Prod.fst x)) : Int))) (some b)
      (cnd
        (decide
          ((List.length b +
                List.length
                  [(Prod.fst (Prod.snd x), Prod.fst (Prod.snd (Prod.snd x)), Prod.snd (Prod.snd (Prod.snd x)))]) *
              (32 : Nat) ≤
            (140737488355328 : Nat)))
        (some (b ++ [(Prod.fst (Prod.snd x), Prod.fst (Prod.snd (Prod.snd x)), Prod.snd (Prod.snd (Prod.snd x)))])) none)
theorem FV_net_Send_eq (w_slices_Clone_api_Gram : List (Int × (List UInt8) × Bool) → Option (List (Int × (List UInt8) × Bool))) (N : Nat) (x : (List (Int × (List UInt8) × Bool)) × Int × (List UInt8) × Bool) : F_net_Send w_slices_Clone_api_Gram N x = V_net_Send w_slices_Clone_api_Gram N x := by kernel_rfl
noncomputable def W_net_Send (N : Nat) (x : (List (Int × (List UInt8) × Bool)) × Int × (List UInt8) × Bool) : Option (List (Int × (List UInt8) × Bool)) :=
  obind (W_slices_Clone_api_Gram N (Prod.fst x)) fun (b : List (Int × List UInt8 × Bool)) =>
    cnd (decide ((60 : Int) ≤ (↑(List.length (Prod.fst x)) : Int))) (some b)
      (cnd
        (decide
          ((List.length b +
                List.length
                  [(Prod.fst (Prod.snd x), Prod.fst (Prod.snd (Prod.snd x)), Prod.snd (Prod.snd (Prod.snd x)))]) *
              (32 : Nat) ≤
            (140737488355328 : Nat)))
        (some (b ++ [(Prod.fst (Prod.snd x), Prod.fst (Prod.snd (Prod.snd x)), Prod.snd (Prod.snd (Prod.snd x)))])) none)
theorem F_net_Send_eq (N : Nat) (x : (List (Int × (List UInt8) × Bool)) × Int × (List UInt8) × Bool) : F_net_Send (W_slices_Clone_api_Gram N) N x = W_net_Send N x := (FV_net_Send_eq (W_slices_Clone_api_Gram N) N x).trans (by kernel_rfl)
noncomputable def conw_net_Send (w : (List (Int × (List UInt8) × Bool)) × Int × (List UInt8) × Bool → Option (List (Int × (List UInt8) × Bool))) : Con := ⟨32, as_net_Send, bs_net_Send, List (Int × (List UInt8) × Bool), w, out_net_Send⟩
noncomputable def con_net_Send (N : Nat) : Con := conw_net_Send (W_net_Send N)
theorem R_net_Send_eq (x : (List (Int × (List UInt8) × Bool)) × Int × (List UInt8) × Bool) (y : List (Int × (List UInt8) × Bool)) : retOf2 P0 Try.f32 (kpL []) (lbOf as_net_Send bs_net_Send x) (patS ⟨16, [], [], []⟩ pout_net_Send y) = some (out_net_Send y) := by kernel_rfl
theorem con_net_Send_ok (N : Nat) : Con.ok P0 (con_net_Send N) := ⟨⟨Try.f32, Try.func32, by kernel_rfl, by kernel_rfl⟩, fun (x : (List (Int × (List UInt8) × Bool)) × Int × (List UInt8) × Bool) (r : List (Int × (List UInt8) × Bool)) (hr : W_net_Send N x = some r) =>
  spec2_evT (Γ := G_net_Send (W_slices_Clone_api_Gram N) N) (Λ := L0) (pout := pout_net_Send) (kp := kpL []) mixed (orcOf_ok _ (by simp only [List.mem_cons, List.not_mem_nil, or_false, forall_eq_or_imp, forall_eq]; exact con_slices_Clone_api_Gram_ok N)) Try.func32 (c := bodyOf Try.f32) (by kernel_rfl) (by kernel_rfl) (of_decide_eq_true (by kernel_rfl)) ((F_net_Send_eq N x).trans hr) (R_net_Send_eq x r)⟩
def as_net_there : List AS := [.val (.list (.agg (.pair (.int .i64) (.pair .str .bool)))), .val (.int .i64)]
def bs_net_there : List BS := []
def pout_net_there : Pat := ⟨[(4, .val .bool)], []⟩
noncomputable def G_net_there  (N : Nat) : OrcT := orcOf []
noncomputable def F_net_there  (N : Nat) (x : (List (Int × (List UInt8) × Bool)) × Int) : Option (Bool) :=
  (evT (G_net_there  N) L0 P0 []
    [] N 400 (bodyOf Try.f72) ⟨13, slots 0 (argsOf as_net_there bs_net_there x), tabU (lbOf as_net_there bs_net_there x) [], []⟩).elim (kRet 13 pout_net_there (kpL []) (lbOf as_net_there bs_net_there x))
def out_net_there (y : Bool) : V × List OK × List OK := (valW .bool y, [], [])
noncomputable def V_net_there  (N : Nat) (x : (List (Int × (List UInt8) × Bool)) × Int) : Option (Bool) :=
  cnd (decide ((0 : Int) ≤ Prod.snd x)) (some (decide (Prod.snd x < (↑(List.length (Prod.fst x)) : Int)))) (some false)
theorem FV_net_there_eq  (N : Nat) (x : (List (Int × (List UInt8) × Bool)) × Int) : F_net_there  N x = V_net_there  N x := by kernel_rfl
noncomputable def W_net_there (N : Nat) (x : (List (Int × (List UInt8) × Bool)) × Int) : Option (Bool) :=
  cnd (decide ((0 : Int) ≤ Prod.snd x)) (some (decide (Prod.snd x < (↑(List.length (Prod.fst x)) : Int)))) (some false)
theorem F_net_there_eq (N : Nat) (x : (List (Int × (List UInt8) × Bool)) × Int) : F_net_there  N x = W_net_there N x := (FV_net_there_eq  N x).trans (by kernel_rfl)
noncomputable def conw_net_there (w : (List (Int × (List UInt8) × Bool)) × Int → Option (Bool)) : Con := ⟨72, as_net_there, bs_net_there, Bool, w, out_net_there⟩
noncomputable def con_net_there (N : Nat) : Con := conw_net_there (W_net_there N)
theorem R_net_there_eq (x : (List (Int × (List UInt8) × Bool)) × Int) (y : Bool) : retOf2 P0 Try.f72 (kpL []) (lbOf as_net_there bs_net_there x) (patS ⟨13, [], [], []⟩ pout_net_there y) = some (out_net_there y) := by kernel_rfl
theorem con_net_there_ok (N : Nat) : Con.ok P0 (con_net_there N) := ⟨⟨Try.f72, Try.func72, by kernel_rfl, by kernel_rfl⟩, fun (x : (List (Int × (List UInt8) × Bool)) × Int) (r : Bool) (hr : W_net_there N x = some r) =>
  spec2_evT (Γ := G_net_there N) (Λ := L0) (pout := pout_net_there) (kp := kpL []) mixed (orcOf_ok [] (by simp)) Try.func72 (c := bodyOf Try.f72) (by kernel_rfl) (by kernel_rfl) (of_decide_eq_true (by kernel_rfl)) ((F_net_there_eq N x).trans hr) (R_net_there_eq x r)⟩
def as_slices_Delete_api_Gram : List AS := [.acc 0, .val (.int .i64), .val (.int .i64)]
def bs_slices_Delete_api_Gram : List BS := [.nrow 45 (.agg (.pair (.int .i64) (.pair .str .bool))) true]
def out_slices_Delete_api_Gram (y : List (Int × (List UInt8) × Bool)) : V × List OK × List OK := (.acc 2000000 0, [.dead], [.nrow 45 false false ⟨(.agg (.pair (.int .i64) (.pair .str .bool))), y⟩])
noncomputable def W_slices_Delete_api_Gram (N : Nat) (x : Int × Int × List (Int × (List UInt8) × Bool)) : Option (List (Int × (List UInt8) × Bool)) :=
  cnd (decide ((0 : Int) ≤ Prod.fst x) && decide (Prod.fst x < ((↑(List.length (Prod.snd (Prod.snd x))) : Int) : Int)) && decide (Prod.fst (Prod.snd x) = Prod.fst x + (1 : Int)) && decide (List.length (Prod.snd (Prod.snd x)) ≤ (140737488355328 : Nat))) (some (List.take (Int.toNat (Prod.fst x)) (Prod.snd (Prod.snd x)) ++ List.drop (Int.toNat (Prod.fst x) + (1 : Nat)) (Prod.snd (Prod.snd x)))) none
noncomputable def conw_slices_Delete_api_Gram (w : Int × Int × List (Int × (List UInt8) × Bool) → Option (List (Int × (List UInt8) × Bool))) : Con := ⟨73, as_slices_Delete_api_Gram, bs_slices_Delete_api_Gram, List (Int × (List UInt8) × Bool), w, out_slices_Delete_api_Gram⟩
noncomputable def con_slices_Delete_api_Gram (N : Nat) : Con := conw_slices_Delete_api_Gram (W_slices_Delete_api_Gram N)
theorem con_slices_Delete_api_Gram_ok (N : Nat) : Con.ok P0 (con_slices_Delete_api_Gram N) := ⟨⟨Try.f73, Try.func73, by kernel_rfl, by kernel_rfl⟩, fun (x : Int × Int × List (Int × (List UInt8) × Bool)) (r : List (Int × (List UInt8) × Bool)) (hr : W_slices_Delete_api_Gram N x = some r) => by
  obtain ⟨i, j, l⟩ := x
  exact del_con1 (e := (.agg (.pair (.int .i64) (.pair .str .bool)))) (ty := 45) (nl := true) (l := l) (r := r) (i := i) (j := j) delF73 rfl (by decide) hr⟩
def as_net_Lost : List AS := [.val (.list (.agg (.pair (.int .i64) (.pair .str .bool)))), .val (.int .i64)]
def bs_net_Lost : List BS := []
def pout_net_Lost : Pat := ⟨[(4, .val (.list (.agg (.pair (.int .i64) (.pair .str .bool))))), (5, .val .bool)], []⟩
noncomputable def G_net_Lost (w_slices_Clone_api_Gram : List (Int × (List UInt8) × Bool) → Option (List (Int × (List UInt8) × Bool))) (w_net_there : (List (Int × (List UInt8) × Bool)) × Int → Option (Bool)) (w_slices_Delete_api_Gram : Int × Int × List (Int × (List UInt8) × Bool) → Option (List (Int × (List UInt8) × Bool))) (N : Nat) : OrcT := orcOf [conw_slices_Clone_api_Gram w_slices_Clone_api_Gram, conw_net_there w_net_there, conw_slices_Delete_api_Gram w_slices_Delete_api_Gram]
noncomputable def F_net_Lost (w_slices_Clone_api_Gram : List (Int × (List UInt8) × Bool) → Option (List (Int × (List UInt8) × Bool))) (w_net_there : (List (Int × (List UInt8) × Bool)) × Int → Option (Bool)) (w_slices_Delete_api_Gram : Int × Int × List (Int × (List UInt8) × Bool) → Option (List (Int × (List UInt8) × Bool))) (N : Nat) (x : (List (Int × (List UInt8) × Bool)) × Int) : Option ((List (Int × (List UInt8) × Bool)) × Bool) :=
  (evT (G_net_Lost w_slices_Clone_api_Gram w_net_there w_slices_Delete_api_Gram N) L0 P0 []
    [] N 400 (bodyOf Try.f36) ⟨19, slots 0 (argsOf as_net_Lost bs_net_Lost x), tabU (lbOf as_net_Lost bs_net_Lost x) [], []⟩).elim (kRet 19 pout_net_Lost (kpL []) (lbOf as_net_Lost bs_net_Lost x))
def out_net_Lost (y : (List (Int × (List UInt8) × Bool)) × Bool) : V × List OK × List OK := (.tup [valW (.list (.agg (.pair (.int .i64) (.pair .str .bool)))) y.1, valW .bool y.2], [], [])
noncomputable def V_net_Lost (w_slices_Clone_api_Gram : List (Int × (List UInt8) × Bool) → Option (List (Int × (List UInt8) × Bool))) (w_net_there : (List (Int × (List UInt8) × Bool)) × Int → Option (Bool)) (w_slices_Delete_api_Gram : Int × Int × List (Int × (List UInt8) × Bool) → Option (List (Int × (List UInt8) × Bool))) (N : Nat) (x : (List (Int × (List UInt8) × Bool)) × Int) : Option ((List (Int × (List UInt8) × Bool)) × Bool) :=
  obind (w_slices_Clone_api_Gram (Prod.fst x)) fun (b : List (Int × List UInt8 × Bool)) =>
    obind (w_net_there (Prod.fst x, Prod.snd x)) fun (b_1 : Bool) =>
      cnd (!b_1) (some (b, false))
        (obind (w_slices_Delete_api_Gram (Prod.snd x, wr IntKind.i64 (Prod.snd x + (1 : Int)), b))
          fun (b : List (Int × List UInt8 × Bool)) => some (b, true))
theorem FV_net_Lost_eq (w_slices_Clone_api_Gram : List (Int × (List UInt8) × Bool) → Option (List (Int × (List UInt8) × Bool))) (w_net_there : (List (Int × (List UInt8) × Bool)) × Int → Option (Bool)) (w_slices_Delete_api_Gram : Int × Int × List (Int × (List UInt8) × Bool) → Option (List (Int × (List UInt8) × Bool))) (N : Nat) (x : (List (Int × (List UInt8) × Bool)) × Int) : F_net_Lost w_slices_Clone_api_Gram w_net_there w_slices_Delete_api_Gram N x = V_net_Lost w_slices_Clone_api_Gram w_net_there w_slices_Delete_api_Gram N x := by kernel_rfl
noncomputable def W_net_Lost (N : Nat) (x : (List (Int × (List UInt8) × Bool)) × Int) : Option ((List (Int × (List UInt8) × Bool)) × Bool) :=
  obind (W_slices_Clone_api_Gram N (Prod.fst x)) fun (b : List (Int × List UInt8 × Bool)) =>
    obind (W_net_there N (Prod.fst x, Prod.snd x)) fun (b_1 : Bool) =>
      cnd (!b_1) (some (b, false))
        (obind (W_slices_Delete_api_Gram N (Prod.snd x, wr IntKind.i64 (Prod.snd x + (1 : Int)), b))
          fun (b : List (Int × List UInt8 × Bool)) => some (b, true))
theorem F_net_Lost_eq (N : Nat) (x : (List (Int × (List UInt8) × Bool)) × Int) : F_net_Lost (W_slices_Clone_api_Gram N) (W_net_there N) (W_slices_Delete_api_Gram N) N x = W_net_Lost N x := (FV_net_Lost_eq (W_slices_Clone_api_Gram N) (W_net_there N) (W_slices_Delete_api_Gram N) N x).trans (by kernel_rfl)
noncomputable def conw_net_Lost (w : (List (Int × (List UInt8) × Bool)) × Int → Option ((List (Int × (List UInt8) × Bool)) × Bool)) : Con := ⟨36, as_net_Lost, bs_net_Lost, (List (Int × (List UInt8) × Bool)) × Bool, w, out_net_Lost⟩
noncomputable def con_net_Lost (N : Nat) : Con := conw_net_Lost (W_net_Lost N)
theorem R_net_Lost_eq (x : (List (Int × (List UInt8) × Bool)) × Int) (y : (List (Int × (List UInt8) × Bool)) × Bool) : retOf2 P0 Try.f36 (kpL []) (lbOf as_net_Lost bs_net_Lost x) (patS ⟨19, [], [], []⟩ pout_net_Lost y) = some (out_net_Lost y) := by kernel_rfl
theorem con_net_Lost_ok (N : Nat) : Con.ok P0 (con_net_Lost N) := ⟨⟨Try.f36, Try.func36, by kernel_rfl, by kernel_rfl⟩, fun (x : (List (Int × (List UInt8) × Bool)) × Int) (r : (List (Int × (List UInt8) × Bool)) × Bool) (hr : W_net_Lost N x = some r) =>
  spec2_evT (Γ := G_net_Lost (W_slices_Clone_api_Gram N) (W_net_there N) (W_slices_Delete_api_Gram N) N) (Λ := L0) (pout := pout_net_Lost) (kp := kpL []) mixed (orcOf_ok _ (by simp only [List.mem_cons, List.not_mem_nil, or_false, forall_eq_or_imp, forall_eq]; exact ⟨con_slices_Clone_api_Gram_ok N, con_net_there_ok N, con_slices_Delete_api_Gram_ok N⟩)) Try.func36 (c := bodyOf Try.f36) (by kernel_rfl) (by kernel_rfl) (of_decide_eq_true (by kernel_rfl)) ((F_net_Lost_eq N x).trans hr) (R_net_Lost_eq x r)⟩
def as_net_Comes : List AS := [.val (.list (.agg (.pair (.int .i64) (.pair .str .bool)))), .val (.int .i64)]
def bs_net_Comes : List BS := []
def pout_net_Comes : Pat := ⟨[(4, .val (.list (.agg (.pair (.int .i64) (.pair .str .bool))))), (5, .ptr 600005 0), (6, .val .bool)], [(600005, .box 45 (.val (.pair (.int .i64) (.pair .str .bool))))]⟩
noncomputable def G_net_Comes (w_net_Lost : (List (Int × (List UInt8) × Bool)) × Int → Option ((List (Int × (List UInt8) × Bool)) × Bool)) (N : Nat) : OrcT := orcOf [conw_net_Lost w_net_Lost]
noncomputable def F_net_Comes (w_net_Lost : (List (Int × (List UInt8) × Bool)) × Int → Option ((List (Int × (List UInt8) × Bool)) × Bool)) (N : Nat) (x : (List (Int × (List UInt8) × Bool)) × Int) : Option ((List (Int × (List UInt8) × Bool)) × Bool × Int × (List UInt8) × Bool) :=
  (evT (G_net_Comes w_net_Lost N) L0 P0 []
    [] N 400 (bodyOf Try.f34) ⟨24, slots 0 (argsOf as_net_Comes bs_net_Comes x), tabU (lbOf as_net_Comes bs_net_Comes x) [], []⟩).elim (kRet 24 pout_net_Comes (kpL []) (lbOf as_net_Comes bs_net_Comes x))
def out_net_Comes (y : (List (Int × (List UInt8) × Bool)) × Bool × Int × (List UInt8) × Bool) : V × List OK × List OK := (.tup [valW (.list (.agg (.pair (.int .i64) (.pair .str .bool)))) y.1, valW (.agg (.pair (.int .i64) (.pair .str .bool))) y.2.2, valW .bool y.2.1], [], [])
noncomputable def V_net_Comes (w_net_Lost : (List (Int × (List UInt8) × Bool)) × Int → Option ((List (Int × (List UInt8) × Bool)) × Bool)) (N : Nat) (x : (List (Int × (List UInt8) × Bool)) × Int) : Option ((List (Int × (List UInt8) × Bool)) × Bool × Int × (List UInt8) × Bool) :=
  obind (w_net_Lost (Prod.fst x, Prod.snd x)) fun (b : List (Int × List UInt8 × Bool) × Bool) =>
    cnd (!Prod.snd b) (some (Prod.fst b, false, (0 : Int), [], false))
      (cnd (decide ((0 : Int) ≤ Prod.snd x) && decide (Prod.snd x < (↑(List.length (Prod.fst x)) : Int)))
        (some
          (Prod.fst b, true, Prod.fst (List.getD (Prod.fst x) (Int.toNat (Prod.snd x)) ((0 : Int), [], false)),
            Prod.fst (Prod.snd (List.getD (Prod.fst x) (Int.toNat (Prod.snd x)) ((0 : Int), [], false))),
            Prod.snd (Prod.snd (List.getD (Prod.fst x) (Int.toNat (Prod.snd x)) ((0 : Int), [], false)))))
        none)
theorem FV_net_Comes_eq (w_net_Lost : (List (Int × (List UInt8) × Bool)) × Int → Option ((List (Int × (List UInt8) × Bool)) × Bool)) (N : Nat) (x : (List (Int × (List UInt8) × Bool)) × Int) : F_net_Comes w_net_Lost N x = V_net_Comes w_net_Lost N x := by kernel_rfl
noncomputable def W_net_Comes (N : Nat) (x : (List (Int × (List UInt8) × Bool)) × Int) : Option ((List (Int × (List UInt8) × Bool)) × Bool × Int × (List UInt8) × Bool) :=
  obind (W_net_Lost N (Prod.fst x, Prod.snd x)) fun (b : List (Int × List UInt8 × Bool) × Bool) =>
    cnd (!Prod.snd b) (some (Prod.fst b, false, (0 : Int), [], false))
      (cnd (decide ((0 : Int) ≤ Prod.snd x) && decide (Prod.snd x < (↑(List.length (Prod.fst x)) : Int)))
        (some
          (Prod.fst b, true, Prod.fst (List.getD (Prod.fst x) (Int.toNat (Prod.snd x)) ((0 : Int), [], false)),
            Prod.fst (Prod.snd (List.getD (Prod.fst x) (Int.toNat (Prod.snd x)) ((0 : Int), [], false))),
            Prod.snd (Prod.snd (List.getD (Prod.fst x) (Int.toNat (Prod.snd x)) ((0 : Int), [], false)))))
        none)
theorem F_net_Comes_eq (N : Nat) (x : (List (Int × (List UInt8) × Bool)) × Int) : F_net_Comes (W_net_Lost N) N x = W_net_Comes N x := (FV_net_Comes_eq (W_net_Lost N) N x).trans (by kernel_rfl)
noncomputable def conw_net_Comes (w : (List (Int × (List UInt8) × Bool)) × Int → Option ((List (Int × (List UInt8) × Bool)) × Bool × Int × (List UInt8) × Bool)) : Con := ⟨34, as_net_Comes, bs_net_Comes, (List (Int × (List UInt8) × Bool)) × Bool × Int × (List UInt8) × Bool, w, out_net_Comes⟩
noncomputable def con_net_Comes (N : Nat) : Con := conw_net_Comes (W_net_Comes N)
theorem R_net_Comes_eq (x : (List (Int × (List UInt8) × Bool)) × Int) (y : (List (Int × (List UInt8) × Bool)) × Bool × Int × (List UInt8) × Bool) : retOf2 P0 Try.f34 (kpL []) (lbOf as_net_Comes bs_net_Comes x) (patS ⟨24, [], [], []⟩ pout_net_Comes y) = some (out_net_Comes y) := by kernel_rfl
theorem con_net_Comes_ok (N : Nat) : Con.ok P0 (con_net_Comes N) := ⟨⟨Try.f34, Try.func34, by kernel_rfl, by kernel_rfl⟩, fun (x : (List (Int × (List UInt8) × Bool)) × Int) (r : (List (Int × (List UInt8) × Bool)) × Bool × Int × (List UInt8) × Bool) (hr : W_net_Comes N x = some r) =>
  spec2_evT (Γ := G_net_Comes (W_net_Lost N) N) (Λ := L0) (pout := pout_net_Comes) (kp := kpL []) mixed (orcOf_ok _ (by simp only [List.mem_cons, List.not_mem_nil, or_false, forall_eq_or_imp, forall_eq]; exact con_net_Lost_ok N)) Try.func34 (c := bodyOf Try.f34) (by kernel_rfl) (by kernel_rfl) (of_decide_eq_true (by kernel_rfl)) ((F_net_Comes_eq N x).trans hr) (R_net_Comes_eq x r)⟩
def as_net_Twice : List AS := [.val (.list (.agg (.pair (.int .i64) (.pair .str .bool)))), .val (.int .i64)]
def bs_net_Twice : List BS := []
def pout_net_Twice : Pat := ⟨[(4, .val (.list (.agg (.pair (.int .i64) (.pair .str .bool))))), (5, .val .bool)], []⟩
noncomputable def G_net_Twice (w_net_there : (List (Int × (List UInt8) × Bool)) × Int → Option (Bool)) (w_slices_Clone_api_Gram : List (Int × (List UInt8) × Bool) → Option (List (Int × (List UInt8) × Bool))) (w_net_Send : (List (Int × (List UInt8) × Bool)) × Int × (List UInt8) × Bool → Option (List (Int × (List UInt8) × Bool))) (N : Nat) : OrcT := orcOf [conw_net_there w_net_there, conw_slices_Clone_api_Gram w_slices_Clone_api_Gram, conw_net_Send w_net_Send]
noncomputable def F_net_Twice (w_net_there : (List (Int × (List UInt8) × Bool)) × Int → Option (Bool)) (w_slices_Clone_api_Gram : List (Int × (List UInt8) × Bool) → Option (List (Int × (List UInt8) × Bool))) (w_net_Send : (List (Int × (List UInt8) × Bool)) × Int × (List UInt8) × Bool → Option (List (Int × (List UInt8) × Bool))) (N : Nat) (x : (List (Int × (List UInt8) × Bool)) × Int) : Option ((List (Int × (List UInt8) × Bool)) × Bool) :=
  (evT (G_net_Twice w_net_there w_slices_Clone_api_Gram w_net_Send N) L0 P0 []
    [] N 400 (bodyOf Try.f37) ⟨23, slots 0 (argsOf as_net_Twice bs_net_Twice x), tabU (lbOf as_net_Twice bs_net_Twice x) [], []⟩).elim (kRet 23 pout_net_Twice (kpL []) (lbOf as_net_Twice bs_net_Twice x))
def out_net_Twice (y : (List (Int × (List UInt8) × Bool)) × Bool) : V × List OK × List OK := (.tup [valW (.list (.agg (.pair (.int .i64) (.pair .str .bool)))) y.1, valW .bool y.2], [], [])
noncomputable def V_net_Twice (w_net_there : (List (Int × (List UInt8) × Bool)) × Int → Option (Bool)) (w_slices_Clone_api_Gram : List (Int × (List UInt8) × Bool) → Option (List (Int × (List UInt8) × Bool))) (w_net_Send : (List (Int × (List UInt8) × Bool)) × Int × (List UInt8) × Bool → Option (List (Int × (List UInt8) × Bool))) (N : Nat) (x : (List (Int × (List UInt8) × Bool)) × Int) : Option ((List (Int × (List UInt8) × Bool)) × Bool) :=
  obind (w_net_there (Prod.fst x, Prod.snd x)) fun (b : Bool) =>
    cnd (!b) (obind (w_slices_Clone_api_Gram (Prod.fst x)) fun (b : List (Int × List UInt8 × Bool)) => some (b, false))
      (cnd (decide ((60 : Int) ≤ (↑(List.length (Prod.fst x)) : Int)))
        (obind (w_slices_Clone_api_Gram (Prod.fst x)) fun (b : List (Int × List UInt8 × Bool)) => some (b, false))
        (cnd (decide ((0 : Int) ≤ Prod.snd x) && decide (Prod.snd x < (↑(List.length (Prod.fst x)) : Int)))
          (obind
            (w_net_Send
              (Prod.fst x, Prod.fst (List.getD (Prod.fst x) (Int.toNat (Prod.snd x)) ((0 : Int), [], false)),
                Prod.fst (Prod.snd (List.getD (Prod.fst x) (Int.toNat (Prod.snd x)) ((0 : Int), [], false))),
                Prod.snd (Prod.snd (List.getD (Prod.fst x) (Int.toNat (Prod.snd x)) ((0 : Int), [], false)))))
            fun (b : List (Int × List UInt8 × Bool)) => some (b, true))
          none))
theorem FV_net_Twice_eq (w_net_there : (List (Int × (List UInt8) × Bool)) × Int → Option (Bool)) (w_slices_Clone_api_Gram : List (Int × (List UInt8) × Bool) → Option (List (Int × (List UInt8) × Bool))) (w_net_Send : (List (Int × (List UInt8) × Bool)) × Int × (List UInt8) × Bool → Option (List (Int × (List UInt8) × Bool))) (N : Nat) (x : (List (Int × (List UInt8) × Bool)) × Int) : F_net_Twice w_net_there w_slices_Clone_api_Gram w_net_Send N x = V_net_Twice w_net_there w_slices_Clone_api_Gram w_net_Send N x := by kernel_rfl
noncomputable def W_net_Twice (N : Nat) (x : (List (Int × (List UInt8) × Bool)) × Int) : Option ((List (Int × (List UInt8) × Bool)) × Bool) :=
  obind (W_net_there N (Prod.fst x, Prod.snd x)) fun (b : Bool) =>
    cnd (!b) (obind (W_slices_Clone_api_Gram N (Prod.fst x)) fun (b : List (Int × List UInt8 × Bool)) => some (b, false))
      (cnd (decide ((60 : Int) ≤ (↑(List.length (Prod.fst x)) : Int)))
        (obind (W_slices_Clone_api_Gram N (Prod.fst x)) fun (b : List (Int × List UInt8 × Bool)) => some (b, false))
        (cnd (decide ((0 : Int) ≤ Prod.snd x) && decide (Prod.snd x < (↑(List.length (Prod.fst x)) : Int)))
          (obind
            (W_net_Send N
              (Prod.fst x, Prod.fst (List.getD (Prod.fst x) (Int.toNat (Prod.snd x)) ((0 : Int), [], false)),
                Prod.fst (Prod.snd (List.getD (Prod.fst x) (Int.toNat (Prod.snd x)) ((0 : Int), [], false))),
                Prod.snd (Prod.snd (List.getD (Prod.fst x) (Int.toNat (Prod.snd x)) ((0 : Int), [], false)))))
            fun (b : List (Int × List UInt8 × Bool)) => some (b, true))
          none))
theorem F_net_Twice_eq (N : Nat) (x : (List (Int × (List UInt8) × Bool)) × Int) : F_net_Twice (W_net_there N) (W_slices_Clone_api_Gram N) (W_net_Send N) N x = W_net_Twice N x := (FV_net_Twice_eq (W_net_there N) (W_slices_Clone_api_Gram N) (W_net_Send N) N x).trans (by kernel_rfl)
noncomputable def conw_net_Twice (w : (List (Int × (List UInt8) × Bool)) × Int → Option ((List (Int × (List UInt8) × Bool)) × Bool)) : Con := ⟨37, as_net_Twice, bs_net_Twice, (List (Int × (List UInt8) × Bool)) × Bool, w, out_net_Twice⟩
noncomputable def con_net_Twice (N : Nat) : Con := conw_net_Twice (W_net_Twice N)
theorem R_net_Twice_eq (x : (List (Int × (List UInt8) × Bool)) × Int) (y : (List (Int × (List UInt8) × Bool)) × Bool) : retOf2 P0 Try.f37 (kpL []) (lbOf as_net_Twice bs_net_Twice x) (patS ⟨23, [], [], []⟩ pout_net_Twice y) = some (out_net_Twice y) := by kernel_rfl
theorem con_net_Twice_ok (N : Nat) : Con.ok P0 (con_net_Twice N) := ⟨⟨Try.f37, Try.func37, by kernel_rfl, by kernel_rfl⟩, fun (x : (List (Int × (List UInt8) × Bool)) × Int) (r : (List (Int × (List UInt8) × Bool)) × Bool) (hr : W_net_Twice N x = some r) =>
  spec2_evT (Γ := G_net_Twice (W_net_there N) (W_slices_Clone_api_Gram N) (W_net_Send N) N) (Λ := L0) (pout := pout_net_Twice) (kp := kpL []) mixed (orcOf_ok _ (by simp only [List.mem_cons, List.not_mem_nil, or_false, forall_eq_or_imp, forall_eq]; exact ⟨con_net_there_ok N, con_slices_Clone_api_Gram_ok N, con_net_Send_ok N⟩)) Try.func37 (c := bodyOf Try.f37) (by kernel_rfl) (by kernel_rfl) (of_decide_eq_true (by kernel_rfl)) ((F_net_Twice_eq N x).trans hr) (R_net_Twice_eq x r)⟩
def as_net_turn : List AS := [.val .str, .val (.int .i64), .val (.int .i32)]
def bs_net_turn : List BS := []
def pout_net_turn : Pat := ⟨[(6, .val .str)], []⟩
noncomputable def G_net_turn  (N : Nat) : OrcT := orcOf []
noncomputable def F_net_turn  (N : Nat) (x : (List UInt8) × Int × Int) : Option (List UInt8) :=
  (evT (G_net_turn  N) L0 P0 []
    [] N 400 (bodyOf Try.f74) ⟨23, slots 0 (argsOf as_net_turn bs_net_turn x), tabU (lbOf as_net_turn bs_net_turn x) [], []⟩).elim (kRet 23 pout_net_turn (kpL []) (lbOf as_net_turn bs_net_turn x))
def out_net_turn (y : List UInt8) : V × List OK × List OK := (valW .str y, [], [])
noncomputable def V_net_turn  (N : Nat) (x : (List UInt8) × Int × Int) : Option (List UInt8) :=
  cnd
    (decide ((0 : Int) ≤ Prod.fst (Prod.snd x)) &&
      decide (Prod.fst (Prod.snd x) < (↑(List.length (List.map (fun (b : UInt8) => (↑(UInt8.toNat b) : Int)) (Prod.fst x))) : Int)))
    (cnd
      (decide ((0 : Int) ≤ Prod.fst (Prod.snd x)) &&
        decide (Prod.fst (Prod.snd x) < (↑(List.length (List.map (fun (b : UInt8) => (↑(UInt8.toNat b) : Int)) (Prod.fst x))) : Int)))
      (cnd
        (List.all
          (putL (List.map (fun (b : UInt8) => (↑(UInt8.toNat b) : Int)) (Prod.fst x))
            [wr IntKind.u8
                (wr IntKind.i32
                  (↑(BitVec.toNat
                      (BitVec.ofInt (32 : Nat)
                          (wr IntKind.i32
                            (List.getD (List.map (fun (b : UInt8) => (↑(UInt8.toNat b) : Int)) (Prod.fst x))
                              (Int.toNat (Prod.fst (Prod.snd x))) (0 : Int))) ^^^
                        BitVec.ofInt (32 : Nat) (Prod.snd (Prod.snd x)))) : Int))]
            (Int.toNat (Prod.fst (Prod.snd x))))
          fun (n : Int) => decide ((0 : Int) ≤ n) && decide (n < (256 : Int)))
        (some
          (List.map (fun (n : Int) => UInt8.ofNat (Int.toNat n))
            (putL (List.map (fun (b : UInt8) => (↑(UInt8.toNat b) : Int)) (Prod.fst x))
              [wr IntKind.u8
                  (wr IntKind.i32
                    (↑(BitVec.toNat
                        (BitVec.ofInt (32 : Nat)
                            (wr IntKind.i32
                              (List.getD (List.map (fun (b : UInt8) => (↑(UInt8.toNat b) : Int)) (Prod.fst x))
                                (Int.toNat (Prod.fst (Prod.snd x))) (0 : Int))) ^^^
                          BitVec.ofInt (32 : Nat) (Prod.snd (Prod.snd x)))) : Int))]
              (Int.toNat (Prod.fst (Prod.snd x))))))
        none)
      none)
    none
theorem FV_net_turn_eq  (N : Nat) (x : (List UInt8) × Int × Int) : F_net_turn  N x = V_net_turn  N x := by kernel_rfl
noncomputable def W_net_turn (N : Nat) (x : (List UInt8) × Int × Int) : Option (List UInt8) :=
  cnd
    (decide ((0 : Int) ≤ Prod.fst (Prod.snd x)) &&
      decide (Prod.fst (Prod.snd x) < (↑(List.length (List.map (fun (b : UInt8) => (↑(UInt8.toNat b) : Int)) (Prod.fst x))) : Int)))
    (cnd
      (decide ((0 : Int) ≤ Prod.fst (Prod.snd x)) &&
        decide (Prod.fst (Prod.snd x) < (↑(List.length (List.map (fun (b : UInt8) => (↑(UInt8.toNat b) : Int)) (Prod.fst x))) : Int)))
      (cnd
        (List.all
          (putL (List.map (fun (b : UInt8) => (↑(UInt8.toNat b) : Int)) (Prod.fst x))
            [wr IntKind.u8
                (wr IntKind.i32
                  (↑(BitVec.toNat
                      (BitVec.ofInt (32 : Nat)
                          (wr IntKind.i32
                            (List.getD (List.map (fun (b : UInt8) => (↑(UInt8.toNat b) : Int)) (Prod.fst x))
                              (Int.toNat (Prod.fst (Prod.snd x))) (0 : Int))) ^^^
                        BitVec.ofInt (32 : Nat) (Prod.snd (Prod.snd x)))) : Int))]
            (Int.toNat (Prod.fst (Prod.snd x))))
          fun (n : Int) => decide ((0 : Int) ≤ n) && decide (n < (256 : Int)))
        (some
          (List.map (fun (n : Int) => UInt8.ofNat (Int.toNat n))
            (putL (List.map (fun (b : UInt8) => (↑(UInt8.toNat b) : Int)) (Prod.fst x))
              [wr IntKind.u8
                  (wr IntKind.i32
                    (↑(BitVec.toNat
                        (BitVec.ofInt (32 : Nat)
                            (wr IntKind.i32
                              (List.getD (List.map (fun (b : UInt8) => (↑(UInt8.toNat b) : Int)) (Prod.fst x))
                                (Int.toNat (Prod.fst (Prod.snd x))) (0 : Int))) ^^^
                          BitVec.ofInt (32 : Nat) (Prod.snd (Prod.snd x)))) : Int))]
              (Int.toNat (Prod.fst (Prod.snd x))))))
        none)
      none)
    none
theorem F_net_turn_eq (N : Nat) (x : (List UInt8) × Int × Int) : F_net_turn  N x = W_net_turn N x := (FV_net_turn_eq  N x).trans (by kernel_rfl)
noncomputable def conw_net_turn (w : (List UInt8) × Int × Int → Option (List UInt8)) : Con := ⟨74, as_net_turn, bs_net_turn, List UInt8, w, out_net_turn⟩
noncomputable def con_net_turn (N : Nat) : Con := conw_net_turn (W_net_turn N)
theorem R_net_turn_eq (x : (List UInt8) × Int × Int) (y : List UInt8) : retOf2 P0 Try.f74 (kpL []) (lbOf as_net_turn bs_net_turn x) (patS ⟨23, [], [], []⟩ pout_net_turn y) = some (out_net_turn y) := by kernel_rfl
theorem con_net_turn_ok (N : Nat) : Con.ok P0 (con_net_turn N) := ⟨⟨Try.f74, Try.func74, by kernel_rfl, by kernel_rfl⟩, fun (x : (List UInt8) × Int × Int) (r : List UInt8) (hr : W_net_turn N x = some r) =>
  spec2_evT (Γ := G_net_turn N) (Λ := L0) (pout := pout_net_turn) (kp := kpL []) mixed (orcOf_ok [] (by simp)) Try.func74 (c := bodyOf Try.f74) (by kernel_rfl) (by kernel_rfl) (of_decide_eq_true (by kernel_rfl)) ((F_net_turn_eq N x).trans hr) (R_net_turn_eq x r)⟩
def as_net_Turned : List AS := [.val (.list (.agg (.pair (.int .i64) (.pair .str .bool)))), .val (.int .i64), .val (.int .i64)]
def bs_net_Turned : List BS := []
def pout_net_Turned : Pat := ⟨[(6, .val (.list (.agg (.pair (.int .i64) (.pair .str .bool))))), (7, .val .bool)], []⟩
noncomputable def G_net_Turned (w_slices_Clone_api_Gram : List (Int × (List UInt8) × Bool) → Option (List (Int × (List UInt8) × Bool))) (w_net_there : (List (Int × (List UInt8) × Bool)) × Int → Option (Bool)) (w_net_turn : (List UInt8) × Int × Int → Option (List UInt8)) (N : Nat) : OrcT := orcOf [conw_slices_Clone_api_Gram w_slices_Clone_api_Gram, conw_net_there w_net_there, conw_net_turn w_net_turn]
noncomputable def F_net_Turned (w_slices_Clone_api_Gram : List (Int × (List UInt8) × Bool) → Option (List (Int × (List UInt8) × Bool))) (w_net_there : (List (Int × (List UInt8) × Bool)) × Int → Option (Bool)) (w_net_turn : (List UInt8) × Int × Int → Option (List UInt8)) (N : Nat) (x : (List (Int × (List UInt8) × Bool)) × Int × Int) : Option ((List (Int × (List UInt8) × Bool)) × Bool) :=
  (evT (G_net_Turned w_slices_Clone_api_Gram w_net_there w_net_turn N) L0 P0 []
    [(1000002, .reg [(11, [], ⟨[(8, .acc 700010), (21, .val .bool)], [(700010, .nrow 45 (.agg (.pair (.int .i64) (.pair .str .bool))) false true)]⟩), (9, [], ⟨[(8, .acc 700010), (30, .val .bool)], [(700010, .nrow 45 (.agg (.pair (.int .i64) (.pair .str .bool))) false true)]⟩), (4, [], ⟨[(8, .acc 700010), (34, .val .bool)], [(700010, .nrow 45 (.agg (.pair (.int .i64) (.pair .str .bool))) false true)]⟩)])] N 400 (bodyOf Try.f39) ⟨68, slots 0 (argsOf as_net_Turned bs_net_Turned x), tabU (lbOf as_net_Turned bs_net_Turned x) [], []⟩).elim (kRet 68 pout_net_Turned (kpL []) (lbOf as_net_Turned bs_net_Turned x))
def out_net_Turned (y : (List (Int × (List UInt8) × Bool)) × Bool) : V × List OK × List OK := (.tup [valW (.list (.agg (.pair (.int .i64) (.pair .str .bool)))) y.1, valW .bool y.2], [], [])
noncomputable def V_net_Turned (w_slices_Clone_api_Gram : List (Int × (List UInt8) × Bool) → Option (List (Int × (List UInt8) × Bool))) (w_net_there : (List (Int × (List UInt8) × Bool)) × Int → Option (Bool)) (w_net_turn : (List UInt8) × Int × Int → Option (List UInt8)) (N : Nat) (x : (List (Int × (List UInt8) × Bool)) × Int × Int) : Option ((List (Int × (List UInt8) × Bool)) × Bool) :=
  obind (w_slices_Clone_api_Gram (Prod.fst x)) fun (b : List (Int × List UInt8 × Bool)) =>
    obind
      (obind (w_net_there (Prod.fst x, Prod.fst (Prod.snd x))) fun (b_1 : Bool) =>
        cnd (!b_1) (some (true, b))
          (cnd
            (decide ((0 : Int) ≤ Prod.fst (Prod.snd x)) && decide (Prod.fst (Prod.snd x) < (↑(List.length (Prod.fst x)) : Int)))
            (some
              (Prod.snd (Prod.snd (List.getD (Prod.fst x) (Int.toNat (Prod.fst (Prod.snd x))) ((0 : Int), [], false))),
                b))
            none))
      fun (b : Bool × List (Int × List UInt8 × Bool)) =>
      obind
        (cnd (Prod.fst b) (some (true, Prod.snd b))
          (cnd
            (decide ((0 : Int) ≤ Prod.fst (Prod.snd x)) && decide (Prod.fst (Prod.snd x) < (↑(List.length (Prod.fst x)) : Int)))
            (some
              (decide
                  ((↑(List.length
                        (Prod.fst
                          (Prod.snd
                            (List.getD (Prod.fst x) (Int.toNat (Prod.fst (Prod.snd x))) ((0 : Int), [], false))))) : Int) =
                    (0 : Int)),
                Prod.snd b))
            none))
        fun (b : Bool × List (Int × List UInt8 × Bool)) =>
        obind (cnd (Prod.fst b) (some (true, Prod.snd b)) (some (decide (Prod.snd (Prod.snd x) < (0 : Int)), Prod.snd b)))
          fun (b : Bool × List (Int × List UInt8 × Bool)) =>
          cnd (Prod.fst b) (some (Prod.snd b, false))
            (cnd (decide (Int.tmod (Prod.snd (Prod.snd x)) (256 : Int) = (0 : Int))) (some (Prod.snd b, false))
              (cnd
                (decide ((0 : Int) ≤ Prod.fst (Prod.snd x)) &&
                  decide (Prod.fst (Prod.snd x) < (↑(List.length (Prod.fst x)) : Int)))
                (cnd
                  (decide ((0 : Int) ≤ Prod.fst (Prod.snd x)) &&
                    decide (Prod.fst (Prod.snd x) < (↑(List.length (Prod.fst x)) : Int)))
                  (cnd
                    (!decide
                        ((↑(List.length
                              (Prod.fst
                                (Prod.snd
                                  (List.getD (Prod.fst x) (Int.toNat (Prod.fst (Prod.snd x))) ((0 : Int), [], false))))) : Int) =
                          (0 : Int)))
                    (obind
                      (w_net_turn
                        (Prod.fst
                            (Prod.snd
                              (List.getD (Prod.fst x) (Int.toNat (Prod.fst (Prod.snd x))) ((0 : Int), [], false))),
                          Int.tmod (wr IntKind.i64 (Int.tdiv (Prod.snd (Prod.snd x)) (256 : Int)))
                            (↑(List.length
                                (Prod.fst
                                  (Prod.snd
                                    (List.getD (Prod.fst x) (Int.toNat (Prod.fst (Prod.snd x)))
                                      ((0 : Int), [], false))))) : Int),
                          wr IntKind.i32 (Int.tmod (Prod.snd (Prod.snd x)) (256 : Int))))
                      fun (b_1 : List UInt8) =>
                      cnd
                        (decide ((0 : Int) ≤ Prod.fst (Prod.snd x)) &&
                          decide (Prod.fst (Prod.snd x) < (↑(List.length (Prod.snd b)) : Int)))
                        (cnd
                          (decide ((0 : Int) ≤ Prod.fst (Prod.snd x)) &&
                            decide
                              (Prod.fst (Prod.snd x) <
                                (↑(List.length
                                    (putL (Prod.snd b)
                                      [(Prod.fst
                                            (List.getD (Prod.snd b) (Int.toNat (Prod.fst (Prod.snd x)))
                                              ((0 : Int), [], false)),
                                          b_1,
                                          Prod.snd
                                            (Prod.snd
                                              (List.getD (Prod.snd b) (Int.toNat (Prod.fst (Prod.snd x)))
                                                ((0 : Int), [], false))))]
                                      (Int.toNat (Prod.fst (Prod.snd x))))) : Int)))
                          (some
                            (putL
                                (putL (Prod.snd b)
                                  [(Prod.fst
                                        (List.getD (Prod.snd b) (Int.toNat (Prod.fst (Prod.snd x)))
                                          ((0 : Int), [], false)),
                                      b_1,
                                      Prod.snd
                                        (Prod.snd
                                          (List.getD (Prod.snd b) (Int.toNat (Prod.fst (Prod.snd x)))
                                            ((0 : Int), [], false))))]
                                  (Int.toNat (Prod.fst (Prod.snd x))))
                                [(Prod.fst
                                      (List.getD
                                        (putL (Prod.snd b)
                                          [(Prod.fst
                                                (List.getD (Prod.snd b) (Int.toNat (Prod.fst (Prod.snd x)))
                                                  ((0 : Int), [], false)),
                                              b_1,
                                              Prod.snd
                                                (Prod.snd
                                                  (List.getD (Prod.snd b) (Int.toNat (Prod.fst (Prod.snd x)))
                                                    ((0 : Int), [], false))))]
                                          (Int.toNat (Prod.fst (Prod.snd x))))
                                        (Int.toNat (Prod.fst (Prod.snd x))) ((0 : Int), [], false)),
                                    Prod.fst
                                      (Prod.snd
                                        (List.getD
                                          (putL (Prod.snd b)
                                            [(Prod.fst
                                                  (List.getD (Prod.snd b) (Int.toNat (Prod.fst (Prod.snd x)))
                                                    ((0 : Int), [], false)),
                                                b_1,
                                                Prod.snd
                                                  (Prod.snd
                                                    (List.getD (Prod.snd b) (Int.toNat (Prod.fst (Prod.snd x)))
                                                      ((0 : Int), [], false))))]
                                            (Int.toNat (Prod.fst (Prod.snd x))))
                                          (Int.toNat (Prod.fst (Prod.snd x))) ((0 : Int), [], false))),
                                    true)]
                                (Int.toNat (Prod.fst (Prod.snd x))),
                              true))
                          none)
                        none)
                    none)
                  none)
                none))
theorem FV_net_Turned_eq (w_slices_Clone_api_Gram : List (Int × (List UInt8) × Bool) → Option (List (Int × (List UInt8) × Bool))) (w_net_there : (List (Int × (List UInt8) × Bool)) × Int → Option (Bool)) (w_net_turn : (List UInt8) × Int × Int → Option (List UInt8)) (N : Nat) (x : (List (Int × (List UInt8) × Bool)) × Int × Int) : F_net_Turned w_slices_Clone_api_Gram w_net_there w_net_turn N x = V_net_Turned w_slices_Clone_api_Gram w_net_there w_net_turn N x := by kernel_rfl
noncomputable def W_net_Turned (N : Nat) (x : (List (Int × (List UInt8) × Bool)) × Int × Int) : Option ((List (Int × (List UInt8) × Bool)) × Bool) :=
  obind (W_slices_Clone_api_Gram N (Prod.fst x)) fun (b : List (Int × List UInt8 × Bool)) =>
    obind
      (obind (W_net_there N (Prod.fst x, Prod.fst (Prod.snd x))) fun (b_1 : Bool) =>
        cnd (!b_1) (some (true, b))
          (cnd
            (decide ((0 : Int) ≤ Prod.fst (Prod.snd x)) && decide (Prod.fst (Prod.snd x) < (↑(List.length (Prod.fst x)) : Int)))
            (some
              (Prod.snd (Prod.snd (List.getD (Prod.fst x) (Int.toNat (Prod.fst (Prod.snd x))) ((0 : Int), [], false))),
                b))
            none))
      fun (b : Bool × List (Int × List UInt8 × Bool)) =>
      obind
        (cnd (Prod.fst b) (some (true, Prod.snd b))
          (cnd
            (decide ((0 : Int) ≤ Prod.fst (Prod.snd x)) && decide (Prod.fst (Prod.snd x) < (↑(List.length (Prod.fst x)) : Int)))
            (some
              (decide
                  ((↑(List.length
                        (Prod.fst
                          (Prod.snd
                            (List.getD (Prod.fst x) (Int.toNat (Prod.fst (Prod.snd x))) ((0 : Int), [], false))))) : Int) =
                    (0 : Int)),
                Prod.snd b))
            none))
        fun (b : Bool × List (Int × List UInt8 × Bool)) =>
        obind (cnd (Prod.fst b) (some (true, Prod.snd b)) (some (decide (Prod.snd (Prod.snd x) < (0 : Int)), Prod.snd b)))
          fun (b : Bool × List (Int × List UInt8 × Bool)) =>
          cnd (Prod.fst b) (some (Prod.snd b, false))
            (cnd (decide (Int.tmod (Prod.snd (Prod.snd x)) (256 : Int) = (0 : Int))) (some (Prod.snd b, false))
              (cnd
                (decide ((0 : Int) ≤ Prod.fst (Prod.snd x)) &&
                  decide (Prod.fst (Prod.snd x) < (↑(List.length (Prod.fst x)) : Int)))
                (cnd
                  (decide ((0 : Int) ≤ Prod.fst (Prod.snd x)) &&
                    decide (Prod.fst (Prod.snd x) < (↑(List.length (Prod.fst x)) : Int)))
                  (cnd
                    (!decide
                        ((↑(List.length
                              (Prod.fst
                                (Prod.snd
                                  (List.getD (Prod.fst x) (Int.toNat (Prod.fst (Prod.snd x))) ((0 : Int), [], false))))) : Int) =
                          (0 : Int)))
                    (obind
                      (W_net_turn N
                        (Prod.fst
                            (Prod.snd
                              (List.getD (Prod.fst x) (Int.toNat (Prod.fst (Prod.snd x))) ((0 : Int), [], false))),
                          Int.tmod (wr IntKind.i64 (Int.tdiv (Prod.snd (Prod.snd x)) (256 : Int)))
                            (↑(List.length
                                (Prod.fst
                                  (Prod.snd
                                    (List.getD (Prod.fst x) (Int.toNat (Prod.fst (Prod.snd x)))
                                      ((0 : Int), [], false))))) : Int),
                          wr IntKind.i32 (Int.tmod (Prod.snd (Prod.snd x)) (256 : Int))))
                      fun (b_1 : List UInt8) =>
                      cnd
                        (decide ((0 : Int) ≤ Prod.fst (Prod.snd x)) &&
                          decide (Prod.fst (Prod.snd x) < (↑(List.length (Prod.snd b)) : Int)))
                        (cnd
                          (decide ((0 : Int) ≤ Prod.fst (Prod.snd x)) &&
                            decide
                              (Prod.fst (Prod.snd x) <
                                (↑(List.length
                                    (putL (Prod.snd b)
                                      [(Prod.fst
                                            (List.getD (Prod.snd b) (Int.toNat (Prod.fst (Prod.snd x)))
                                              ((0 : Int), [], false)),
                                          b_1,
                                          Prod.snd
                                            (Prod.snd
                                              (List.getD (Prod.snd b) (Int.toNat (Prod.fst (Prod.snd x)))
                                                ((0 : Int), [], false))))]
                                      (Int.toNat (Prod.fst (Prod.snd x))))) : Int)))
                          (some
                            (putL
                                (putL (Prod.snd b)
                                  [(Prod.fst
                                        (List.getD (Prod.snd b) (Int.toNat (Prod.fst (Prod.snd x)))
                                          ((0 : Int), [], false)),
                                      b_1,
                                      Prod.snd
                                        (Prod.snd
                                          (List.getD (Prod.snd b) (Int.toNat (Prod.fst (Prod.snd x)))
                                            ((0 : Int), [], false))))]
                                  (Int.toNat (Prod.fst (Prod.snd x))))
                                [(Prod.fst
                                      (List.getD
                                        (putL (Prod.snd b)
                                          [(Prod.fst
                                                (List.getD (Prod.snd b) (Int.toNat (Prod.fst (Prod.snd x)))
                                                  ((0 : Int), [], false)),
                                              b_1,
                                              Prod.snd
                                                (Prod.snd
                                                  (List.getD (Prod.snd b) (Int.toNat (Prod.fst (Prod.snd x)))
                                                    ((0 : Int), [], false))))]
                                          (Int.toNat (Prod.fst (Prod.snd x))))
                                        (Int.toNat (Prod.fst (Prod.snd x))) ((0 : Int), [], false)),
                                    Prod.fst
                                      (Prod.snd
                                        (List.getD
                                          (putL (Prod.snd b)
                                            [(Prod.fst
                                                  (List.getD (Prod.snd b) (Int.toNat (Prod.fst (Prod.snd x)))
                                                    ((0 : Int), [], false)),
                                                b_1,
                                                Prod.snd
                                                  (Prod.snd
                                                    (List.getD (Prod.snd b) (Int.toNat (Prod.fst (Prod.snd x)))
                                                      ((0 : Int), [], false))))]
                                            (Int.toNat (Prod.fst (Prod.snd x))))
                                          (Int.toNat (Prod.fst (Prod.snd x))) ((0 : Int), [], false))),
                                    true)]
                                (Int.toNat (Prod.fst (Prod.snd x))),
                              true))
                          none)
                        none)
                    none)
                  none)
                none))
theorem F_net_Turned_eq (N : Nat) (x : (List (Int × (List UInt8) × Bool)) × Int × Int) : F_net_Turned (W_slices_Clone_api_Gram N) (W_net_there N) (W_net_turn N) N x = W_net_Turned N x := (FV_net_Turned_eq (W_slices_Clone_api_Gram N) (W_net_there N) (W_net_turn N) N x).trans (by kernel_rfl)
noncomputable def conw_net_Turned (w : (List (Int × (List UInt8) × Bool)) × Int × Int → Option ((List (Int × (List UInt8) × Bool)) × Bool)) : Con := ⟨39, as_net_Turned, bs_net_Turned, (List (Int × (List UInt8) × Bool)) × Bool, w, out_net_Turned⟩
noncomputable def con_net_Turned (N : Nat) : Con := conw_net_Turned (W_net_Turned N)
theorem R_net_Turned_eq (x : (List (Int × (List UInt8) × Bool)) × Int × Int) (y : (List (Int × (List UInt8) × Bool)) × Bool) : retOf2 P0 Try.f39 (kpL []) (lbOf as_net_Turned bs_net_Turned x) (patS ⟨68, [], [], []⟩ pout_net_Turned y) = some (out_net_Turned y) := by kernel_rfl
theorem con_net_Turned_ok (N : Nat) : Con.ok P0 (con_net_Turned N) := ⟨⟨Try.f39, Try.func39, by kernel_rfl, by kernel_rfl⟩, fun (x : (List (Int × (List UInt8) × Bool)) × Int × Int) (r : (List (Int × (List UInt8) × Bool)) × Bool) (hr : W_net_Turned N x = some r) =>
  spec2_evT (Γ := G_net_Turned (W_slices_Clone_api_Gram N) (W_net_there N) (W_net_turn N) N) (Λ := L0) (pout := pout_net_Turned) (kp := kpL []) mixed (orcOf_ok _ (by simp only [List.mem_cons, List.not_mem_nil, or_false, forall_eq_or_imp, forall_eq]; exact ⟨con_slices_Clone_api_Gram_ok N, con_net_there_ok N, con_net_turn_ok N⟩)) Try.func39 (c := bodyOf Try.f39) (by kernel_rfl) (by kernel_rfl) (of_decide_eq_true (by kernel_rfl)) ((F_net_Turned_eq N x).trans hr) (R_net_Turned_eq x r)⟩
def as_law13_apart : List AS := [.val .str, .val .str]
def bs_law13_apart : List BS := []
def pout_law13_apart : Pat := ⟨[(4, .val (.int .i64))], []⟩
noncomputable def G_law13_apart  (N : Nat) : OrcT := orcOf []
noncomputable def F_law13_apart  (N : Nat) (x : (List UInt8) × List UInt8) : Option (Int) :=
  (evT (G_law13_apart  N) L0 P0 [(5, .loop [] ⟨[(5, .val (.int .i64)), (6, .val (.int .i64))], []⟩ [(.exit 0, ⟨[(5, .val (.int .i64))], []⟩)])]
    [] N 400 (bodyOf Try.f42) ⟨28, slots 0 (argsOf as_law13_apart bs_law13_apart x), tabU (lbOf as_law13_apart bs_law13_apart x) [], []⟩).elim (kRet 28 pout_law13_apart (kpL []) (lbOf as_law13_apart bs_law13_apart x))
def out_law13_apart (y : Int) : V × List OK × List OK := (valW (.int .i64) y, [], [])
noncomputable def V_law13_apart  (N : Nat) (x : (List UInt8) × List UInt8) : Option (Int) :=
  cnd (decide ((↑(List.length (Prod.fst x)) : Int) ≠ (↑(List.length (Prod.snd x)) : Int))) (some (9 : Int))
    (obind
      (loopN N
        (fun (v : Int × Int) =>
          cnd (decide (Prod.snd v < (↑(List.length (Prod.fst x)) : Int)))
            (cnd (decide ((0 : Int) ≤ Prod.snd v) && decide (Prod.snd v < (↑(List.length (Prod.fst x)) : Int)))
              (cnd (decide ((0 : Int) ≤ Prod.snd v) && decide (Prod.snd v < (↑(List.length (Prod.snd x)) : Int)))
                (cnd
                  (decide
                    ((↑(UInt8.toNat (List.getD (Prod.fst x) (Int.toNat (Prod.snd v)) (0 : UInt8))) : Int) ≠
                      (↑(UInt8.toNat (List.getD (Prod.snd x) (Int.toNat (Prod.snd v)) (0 : UInt8))) : Int)))
                  (some (Sum.inl (wr IntKind.i64 (Prod.fst v + (1 : Int)), wr IntKind.i64 (Prod.snd v + (1 : Int)))))
                  (some (Sum.inl (Prod.fst v, wr IntKind.i64 (Prod.snd v + (1 : Int))))))
                none)
              none)
            (some (Sum.inr (Prod.fst v))))
        ((0 : Int), (0 : Int)))
      fun (b : Int) => some b)
theorem FV_law13_apart_eq  (N : Nat) (x : (List UInt8) × List UInt8) : F_law13_apart  N x = V_law13_apart  N x := by kernel_rfl
noncomputable def W_law13_apart (N : Nat) (x : (List UInt8) × List UInt8) : Option (Int) :=
  cnd (decide ((↑(List.length (Prod.fst x)) : Int) ≠ (↑(List.length (Prod.snd x)) : Int))) (some (9 : Int))
    (obind
      (loopN N
        (fun (v : Int × Int) =>
          cnd (decide (Prod.snd v < (↑(List.length (Prod.fst x)) : Int)))
            (cnd (decide ((0 : Int) ≤ Prod.snd v) && decide (Prod.snd v < (↑(List.length (Prod.fst x)) : Int)))
              (cnd (decide ((0 : Int) ≤ Prod.snd v) && decide (Prod.snd v < (↑(List.length (Prod.snd x)) : Int)))
                (cnd
                  (decide
                    ((↑(UInt8.toNat (List.getD (Prod.fst x) (Int.toNat (Prod.snd v)) (0 : UInt8))) : Int) ≠
                      (↑(UInt8.toNat (List.getD (Prod.snd x) (Int.toNat (Prod.snd v)) (0 : UInt8))) : Int)))
                  (some (Sum.inl (wr IntKind.i64 (Prod.fst v + (1 : Int)), wr IntKind.i64 (Prod.snd v + (1 : Int)))))
                  (some (Sum.inl (Prod.fst v, wr IntKind.i64 (Prod.snd v + (1 : Int))))))
                none)
              none)
            (some (Sum.inr (Prod.fst v))))
        ((0 : Int), (0 : Int)))
      fun (b : Int) => some b)
theorem F_law13_apart_eq (N : Nat) (x : (List UInt8) × List UInt8) : F_law13_apart  N x = W_law13_apart N x := (FV_law13_apart_eq  N x).trans (by kernel_rfl)
noncomputable def conw_law13_apart (w : (List UInt8) × List UInt8 → Option (Int)) : Con := ⟨42, as_law13_apart, bs_law13_apart, Int, w, out_law13_apart⟩
noncomputable def con_law13_apart (N : Nat) : Con := conw_law13_apart (W_law13_apart N)
theorem R_law13_apart_eq (x : (List UInt8) × List UInt8) (y : Int) : retOf2 P0 Try.f42 (kpL []) (lbOf as_law13_apart bs_law13_apart x) (patS ⟨28, [], [], []⟩ pout_law13_apart y) = some (out_law13_apart y) := by kernel_rfl
theorem con_law13_apart_ok (N : Nat) : Con.ok P0 (con_law13_apart N) := ⟨⟨Try.f42, Try.func42, by kernel_rfl, by kernel_rfl⟩, fun (x : (List UInt8) × List UInt8) (r : Int) (hr : W_law13_apart N x = some r) =>
  spec2_evT (Γ := G_law13_apart N) (Λ := L0) (pout := pout_law13_apart) (kp := kpL []) mixed (orcOf_ok [] (by simp)) Try.func42 (c := bodyOf Try.f42) (by kernel_rfl) (by kernel_rfl) (of_decide_eq_true (by kernel_rfl)) ((F_law13_apart_eq N x).trans hr) (R_law13_apart_eq x r)⟩
def as_law13_NetMade : List AS := [.val (.list (.agg (.pair (.int .u8) (.pair (.int .u8) (.pair (.int .u8) (.int .u8))))))]
def bs_law13_NetMade : List BS := []
def pout_law13_NetMade : Pat := ⟨[(2, .val .bool)], []⟩
noncomputable def G_law13_NetMade (w_net_Send : (List (Int × (List UInt8) × Bool)) × Int × (List UInt8) × Bool → Option (List (Int × (List UInt8) × Bool))) (w_net_Comes : (List (Int × (List UInt8) × Bool)) × Int → Option ((List (Int × (List UInt8) × Bool)) × Bool × Int × (List UInt8) × Bool)) (w_net_Lost : (List (Int × (List UInt8) × Bool)) × Int → Option ((List (Int × (List UInt8) × Bool)) × Bool)) (w_net_Twice : (List (Int × (List UInt8) × Bool)) × Int → Option ((List (Int × (List UInt8) × Bool)) × Bool)) (w_net_Turned : (List (Int × (List UInt8) × Bool)) × Int × Int → Option ((List (Int × (List UInt8) × Bool)) × Bool)) (w_law13_apart : (List UInt8) × List UInt8 → Option (Int)) (N : Nat) : OrcT := orcOf [con_law13_begun N, conw_net_Send w_net_Send, conw_net_Comes w_net_Comes, conw_net_Lost w_net_Lost, conw_net_Twice w_net_Twice, conw_net_Turned w_net_Turned, conw_law13_apart w_law13_apart]
noncomputable def F_law13_NetMade (w_net_Send : (List (Int × (List UInt8) × Bool)) × Int × (List UInt8) × Bool → Option (List (Int × (List UInt8) × Bool))) (w_net_Comes : (List (Int × (List UInt8) × Bool)) × Int → Option ((List (Int × (List UInt8) × Bool)) × Bool × Int × (List UInt8) × Bool)) (w_net_Lost : (List (Int × (List UInt8) × Bool)) × Int → Option ((List (Int × (List UInt8) × Bool)) × Bool)) (w_net_Twice : (List (Int × (List UInt8) × Bool)) × Int → Option ((List (Int × (List UInt8) × Bool)) × Bool)) (w_net_Turned : (List (Int × (List UInt8) × Bool)) × Int × Int → Option ((List (Int × (List UInt8) × Bool)) × Bool)) (w_law13_apart : (List UInt8) × List UInt8 → Option (Int)) (N : Nat) (x : List (Int × Int × Int × Int)) : Option (Bool) :=
  (evT (G_law13_NetMade w_net_Send w_net_Comes w_net_Lost w_net_Twice w_net_Turned w_law13_apart N) L0 P0 [(35, .loop [3] ⟨[(4, .acc 700004), (10, .val .bool), (12, .val (.int .i64))], [(700004, .nrow 45 (.agg (.pair (.int .i64) (.pair .str .bool))) true true)]⟩ [(.exit 5, ⟨[(4, .acc 700004), (10, .val .bool)], [(700004, .nrow 45 (.agg (.pair (.int .i64) (.pair .str .bool))) true true)]⟩)]),
    (29, .loop [3] ⟨[(4, .acc 700004), (9, .val (.int .i64))], [(700004, .nrow 45 (.agg (.pair (.int .i64) (.pair .str .bool))) true true)]⟩ [(.exit 3, ⟨[(4, .acc 700004)], [(700004, .nrow 45 (.agg (.pair (.int .i64) (.pair .str .bool))) true true)]⟩), (.ret, ⟨[(2, .val .bool)], []⟩)]),
    (7, .loop [] ⟨[(3, .val (.list (.agg (.pair (.int .i64) (.pair .str .bool))))), (4, .acc 700004), (5, .val (.int .i64))], [(700004, .nrow 45 (.agg (.pair (.int .i64) (.pair .str .bool))) true true)]⟩ [(.exit 0, ⟨[], []⟩), (.ret, ⟨[(2, .val .bool)], []⟩)])]
    [(15, .cut [3] [(.normal, ⟨[(4, .acc 700004), (57, .val .bool)], [(700004, .nrow 45 (.agg (.pair (.int .i64) (.pair .str .bool))) true true)]⟩)]),
    (34, .cut [3] [(.normal, ⟨[(4, .acc 700004), (11, .val (.int .i64))], [(700004, .nrow 45 (.agg (.pair (.int .i64) (.pair .str .bool))) true true)]⟩)]),
    (26, .cut [] [(.normal, ⟨[(3, .val (.list (.agg (.pair (.int .i64) (.pair .str .bool))))), (4, .acc 700004)], [(700004, .nrow 45 (.agg (.pair (.int .i64) (.pair .str .bool))) true true)]⟩), (.ret, ⟨[(2, .val .bool)], []⟩)])] N 400 (bodyOf Try.f8) ⟨158, slots 0 (argsOf as_law13_NetMade bs_law13_NetMade x), tabU (lbOf as_law13_NetMade bs_law13_NetMade x) [], []⟩).elim (kRet 158 pout_law13_NetMade (kpL []) (lbOf as_law13_NetMade bs_law13_NetMade x))
def out_law13_NetMade (y : Bool) : V × List OK × List OK := (valW .bool y, [], [])
noncomputable def V_law13_NetMade (w_net_Send : (List (Int × (List UInt8) × Bool)) × Int × (List UInt8) × Bool → Option (List (Int × (List UInt8) × Bool))) (w_net_Comes : (List (Int × (List UInt8) × Bool)) × Int → Option ((List (Int × (List UInt8) × Bool)) × Bool × Int × (List UInt8) × Bool)) (w_net_Lost : (List (Int × (List UInt8) × Bool)) × Int → Option ((List (Int × (List UInt8) × Bool)) × Bool)) (w_net_Twice : (List (Int × (List UInt8) × Bool)) × Int → Option ((List (Int × (List UInt8) × Bool)) × Bool)) (w_net_Turned : (List (Int × (List UInt8) × Bool)) × Int × Int → Option ((List (Int × (List UInt8) × Bool)) × Bool)) (w_law13_apart : (List UInt8) × List UInt8 → Option (Int)) (N : Nat) (x : List (Int × Int × Int × Int)) : Option (Bool) :=
  cnd (decide ((80 : Int) < (↑(List.length x) : Int))) (some true)
    (obind
      (loopN N
        (fun (v : List (Int × List UInt8 × Bool) × Int × List (Int × List UInt8 × Bool)) =>
          cnd (decide (Prod.fst (Prod.snd v) < (↑(List.length x) : Int)))
            (cnd (decide ((0 : Int) ≤ Prod.fst (Prod.snd v)) && decide (Prod.fst (Prod.snd v) < (↑(List.length x) : Int)))
              (obind
                (cnd (decide ((0 : Int) ≤ Prod.fst (Prod.snd v)) && decide (Prod.fst (Prod.snd v) < (↑(List.length x) : Int)))
                  (obind
                    (cnd
                      (decide
                        (Int.tmod
                            (Prod.fst
                              (List.getD x (Int.toNat (Prod.fst (Prod.snd v)))
                                ((0 : Int), (0 : Int), (0 : Int), (0 : Int))))
                            (7 : Int) =
                          (0 : Int)))
                      (some
                        (decide
                            (Int.tmod
                                (Prod.fst
                                  (List.getD x (Int.toNat (Prod.fst (Prod.snd v)))
                                    ((0 : Int), (0 : Int), (0 : Int), (0 : Int))))
                                (7 : Int) =
                              (0 : Int)),
                          Prod.snd (Prod.snd v)))
                      (cnd
                        (decide
                          (Int.tmod
                              (Prod.fst
                                (List.getD x (Int.toNat (Prod.fst (Prod.snd v)))
                                  ((0 : Int), (0 : Int), (0 : Int), (0 : Int))))
                              (7 : Int) =
                            (1 : Int)))
                        (some
                          (decide
                              (Int.tmod
                                  (Prod.fst
                                    (List.getD x (Int.toNat (Prod.fst (Prod.snd v)))
                                      ((0 : Int), (0 : Int), (0 : Int), (0 : Int))))
                                  (7 : Int) =
                                (1 : Int)),
                            Prod.snd (Prod.snd v)))
                        (some
                          (decide
                              (Int.tmod
                                  (Prod.fst
                                    (List.getD x (Int.toNat (Prod.fst (Prod.snd v)))
                                      ((0 : Int), (0 : Int), (0 : Int), (0 : Int))))
                                  (7 : Int) =
                                (2 : Int)),
                            Prod.snd (Prod.snd v)))))
                    fun (b : Bool × List (Int × List UInt8 × Bool)) =>
                    cnd (Prod.fst b)
                      (cnd
                        (List.all
                          [wr IntKind.u8 ((97 : Int) + wr IntKind.u8 (Int.tmod (Prod.fst (Prod.snd v)) (26 : Int))),
                            wr IntKind.u8
                              ((97 : Int) + wr IntKind.u8 (wr IntKind.i64 (Int.tdiv (Prod.fst (Prod.snd v)) (26 : Int)))),
                            (122 : Int)]
                          fun (n : Int) => decide ((0 : Int) ≤ n) && decide (n < (256 : Int)))
                        (obind
                          (w_net_Send
                            (Prod.fst v, (2 : Int),
                              bytesI
                                [wr IntKind.u8 ((97 : Int) + wr IntKind.u8 (Int.tmod (Prod.fst (Prod.snd v)) (26 : Int))),
                                  wr IntKind.u8
                                    ((97 : Int) +
                                      wr IntKind.u8 (wr IntKind.i64 (Int.tdiv (Prod.fst (Prod.snd v)) (26 : Int)))),
                                  (122 : Int)],
                              false))
                          fun (b_1 : List (Int × List UInt8 × Bool)) =>
                          cnd
                            (decide
                              ((List.length (Prod.snd b) +
                                    List.length
                                      [((2 : Int),
                                          bytesI
                                            [wr IntKind.u8
                                                ((97 : Int) +
                                                  wr IntKind.u8 (Int.tmod (Prod.fst (Prod.snd v)) (26 : Int))),
                                              wr IntKind.u8
                                                ((97 : Int) +
                                                  wr IntKind.u8
                                                    (wr IntKind.i64 (Int.tdiv (Prod.fst (Prod.snd v)) (26 : Int)))),
                                              (122 : Int)],
                                          false)]) *
                                  (32 : Nat) ≤
                                (140737488355328 : Nat)))
                            (cnd
                              (decide
                                ((↑(List.length b_1) : Int) ≠
                                  min (wr IntKind.i64 ((↑(List.length (Prod.fst v)) : Int) + (1 : Int))) (60 : Int)))
                              (some (Sum.inr false))
                              (some
                                (Sum.inl
                                  (b_1,
                                    Prod.snd b ++
                                      [((2 : Int),
                                          bytesI
                                            [wr IntKind.u8
                                                ((97 : Int) +
                                                  wr IntKind.u8 (Int.tmod (Prod.fst (Prod.snd v)) (26 : Int))),
                                              wr IntKind.u8
                                                ((97 : Int) +
                                                  wr IntKind.u8
                                                    (wr IntKind.i64 (Int.tdiv (Prod.fst (Prod.snd v)) (26 : Int)))),
                                              (122 : Int)],
                                          false)]))))
                            none)
                        none)
                      (cnd
                        (decide
                          (Int.tmod
                              (Prod.fst
                                (List.getD x (Int.toNat (Prod.fst (Prod.snd v)))
                                  ((0 : Int), (0 : Int), (0 : Int), (0 : Int))))
                              (7 : Int) =
                            (3 : Int)))
                        (obind
                          (w_net_Comes
                            (Prod.fst v,
                              Int.tmod
                                (wr IntKind.i64
                                  (Prod.fst
                                    (Prod.snd
                                      (List.getD x (Int.toNat (Prod.fst (Prod.snd v)))
                                        ((0 : Int), (0 : Int), (0 : Int), (0 : Int))))))
                                (24 : Int)))
                          fun (b_1 : List (Int × List UInt8 × Bool) × Bool × Int × List UInt8 × Bool) =>
                          some (Sum.inl (Prod.fst b_1, Prod.snd b)))
                        (cnd
                          (decide
                            (Int.tmod
                                (Prod.fst
                                  (List.getD x (Int.toNat (Prod.fst (Prod.snd v)))
                                    ((0 : Int), (0 : Int), (0 : Int), (0 : Int))))
                                (7 : Int) =
                              (4 : Int)))
                          (obind
                            (w_net_Lost
                              (Prod.fst v,
                                Int.tmod
                                  (wr IntKind.i64
                                    (Prod.fst
                                      (Prod.snd
                                        (List.getD x (Int.toNat (Prod.fst (Prod.snd v)))
                                          ((0 : Int), (0 : Int), (0 : Int), (0 : Int))))))
                                  (24 : Int)))
                            fun (b_1 : List (Int × List UInt8 × Bool) × Bool) =>
                            some (Sum.inl (Prod.fst b_1, Prod.snd b)))
                          (cnd
                            (decide
                              (Int.tmod
                                  (Prod.fst
                                    (List.getD x (Int.toNat (Prod.fst (Prod.snd v)))
                                      ((0 : Int), (0 : Int), (0 : Int), (0 : Int))))
                                  (7 : Int) =
                                (5 : Int)))
                            (obind
                              (w_net_Twice
                                (Prod.fst v,
                                  Int.tmod
                                    (wr IntKind.i64
                                      (Prod.fst
                                        (Prod.snd
                                          (List.getD x (Int.toNat (Prod.fst (Prod.snd v)))
                                            ((0 : Int), (0 : Int), (0 : Int), (0 : Int))))))
                                    (24 : Int)))
                              fun (b_1 : List (Int × List UInt8 × Bool) × Bool) =>
                              some (Sum.inl (Prod.fst b_1, Prod.snd b)))
                            (cnd
                              (decide ((0 : Int) ≤ Prod.fst (Prod.snd v)) &&
                                decide (Prod.fst (Prod.snd v) < (↑(List.length x) : Int)))
                              (cnd
                                (decide ((0 : Int) ≤ Prod.fst (Prod.snd v)) &&
                                  decide (Prod.fst (Prod.snd v) < (↑(List.length x) : Int)))
                                (obind
                                  (w_net_Turned
                                    (Prod.fst v,
                                      Int.tmod
                                        (wr IntKind.i64
                                          (Prod.fst
                                            (Prod.snd
                                              (List.getD x (Int.toNat (Prod.fst (Prod.snd v)))
                                                ((0 : Int), (0 : Int), (0 : Int), (0 : Int))))))
                                        (24 : Int),
                                      wr IntKind.i64
                                        (wr IntKind.i64
                                            (wr IntKind.i64
                                                (Prod.fst
                                                  (Prod.snd
                                                    (Prod.snd
                                                      (List.getD x (Int.toNat (Prod.fst (Prod.snd v)))
                                                        ((0 : Int), (0 : Int), (0 : Int), (0 : Int)))))) *
                                              (256 : Int)) +
                                          wr IntKind.i64
                                            (Prod.snd
                                              (Prod.snd
                                                (Prod.snd
                                                  (List.getD x (Int.toNat (Prod.fst (Prod.snd v)))
                                                    ((0 : Int), (0 : Int), (0 : Int), (0 : Int)))))))))
                                  fun (b_1 : List (Int × List UInt8 × Bool) × Bool) =>
                                  some (Sum.inl (Prod.fst b_1, Prod.snd b)))
                                none)
                              none)))))
                  none)
                fun (b : List (Int × List UInt8 × Bool) × List (Int × List UInt8 × Bool) ⊕ Bool) =>
                selim
                  (fun (b : List (Int × List UInt8 × Bool) × List (Int × List UInt8 × Bool)) =>
                    cnd (decide ((60 : Int) < (↑(List.length (Prod.fst b)) : Int))) (some (Sum.inr (Sum.inr false)))
                      (obind
                        (loopN N
                          (fun (v : Int × List (Int × List UInt8 × Bool)) =>
                            cnd (decide (Prod.fst v < (↑(List.length (Prod.fst b)) : Int)))
                              (obind
                                (cnd
                                  (decide ((0 : Int) ≤ Prod.fst v) && decide (Prod.fst v < (↑(List.length (Prod.fst b)) : Int)))
                                  (cnd
                                    (Prod.snd
                                      (Prod.snd (List.getD (Prod.fst b) (Int.toNat (Prod.fst v)) ((0 : Int), [], false))))
                                    (some ((1 : Int), Prod.snd v)) (some ((0 : Int), Prod.snd v)))
                                  none)
                                fun (b_1 : Int × List (Int × List UInt8 × Bool)) =>
                                obind
                                  (loopN N
                                    (fun (v_1 : Bool × Int × List (Int × List UInt8 × Bool)) =>
                                      cnd (decide (Prod.fst (Prod.snd v_1) < (↑(List.length (Prod.snd (Prod.snd v_1))) : Int)))
                                        (cnd (Prod.fst v_1)
                                          (some
                                            (Sum.inl
                                              (true, wr IntKind.i64 (Prod.fst (Prod.snd v_1) + (1 : Int)),
                                                Prod.snd (Prod.snd v_1))))
                                          (cnd
                                            (decide ((0 : Int) ≤ Prod.fst v) &&
                                              decide (Prod.fst v < (↑(List.length (Prod.fst b)) : Int)))
                                            (cnd
                                              (decide ((0 : Int) ≤ Prod.fst (Prod.snd v_1)) &&
                                                decide
                                                  (Prod.fst (Prod.snd v_1) < (↑(List.length (Prod.snd (Prod.snd v_1))) : Int)))
                                              (obind
                                                (w_law13_apart
                                                  (Prod.fst
                                                      (Prod.snd
                                                        (List.getD (Prod.fst b) (Int.toNat (Prod.fst v))
                                                          ((0 : Int), [], false))),
                                                    Prod.fst
                                                      (Prod.snd
                                                        (List.getD (Prod.snd (Prod.snd v_1))
                                                          (Int.toNat (Prod.fst (Prod.snd v_1))) ((0 : Int), [], false)))))
                                                fun (b_2 : Int) =>
                                                cnd (decide (b_2 = Prod.fst b_1))
                                                  (cnd
                                                    (decide ((0 : Int) ≤ Prod.fst v) &&
                                                      decide (Prod.fst v < (↑(List.length (Prod.fst b)) : Int)))
                                                    (some
                                                      (Sum.inl
                                                        (decide
                                                            (Prod.fst
                                                                (List.getD (Prod.fst b) (Int.toNat (Prod.fst v))
                                                                  ((0 : Int), [], false)) =
                                                              (2 : Int)),
                                                          wr IntKind.i64 (Prod.fst (Prod.snd v_1) + (1 : Int)),
                                                          Prod.snd (Prod.snd v_1))))
                                                    none)
                                                  (some
                                                    (Sum.inl
                                                      (false, wr IntKind.i64 (Prod.fst (Prod.snd v_1) + (1 : Int)),
                                                        Prod.snd (Prod.snd v_1)))))
                                              none)
                                            none))
                                        (some (Sum.inr (Prod.fst v_1, Prod.snd (Prod.snd v_1)))))
                                    (false, (0 : Int), Prod.snd b_1))
                                  fun (b : Bool × List (Int × List UInt8 × Bool)) =>
                                  cnd (!Prod.fst b) (some (Sum.inr (Sum.inr false)))
                                    (some (Sum.inl (wr IntKind.i64 (Prod.fst v + (1 : Int)), Prod.snd b))))
                              (some (Sum.inr (Sum.inl (Prod.snd v)))))
                          ((0 : Int), Prod.snd b))
                        fun (b_1 : List (Int × List UInt8 × Bool) ⊕ Bool) =>
                        selim
                          (fun (b_2 : List (Int × List UInt8 × Bool)) =>
                            some (Sum.inl (Prod.fst b, wr IntKind.i64 (Prod.fst (Prod.snd v) + (1 : Int)), b_2)))
                          (fun (c : Bool) => some (Sum.inr (Sum.inr c))) b_1))
                  (fun (c : Bool) => some (Sum.inr (Sum.inr c))) b)
              none)
            (some (Sum.inr (Sum.inl ()))))
        ([], (0 : Int), []))
      fun (b : PUnit ⊕ Bool) => selim (fun (b : PUnit) => some true) (fun (c : Bool) => some c) b)
theorem FV_law13_NetMade_eq (w_net_Send : (List (Int × (List UInt8) × Bool)) × Int × (List UInt8) × Bool → Option (List (Int × (List UInt8) × Bool))) (w_net_Comes : (List (Int × (List UInt8) × Bool)) × Int → Option ((List (Int × (List UInt8) × Bool)) × Bool × Int × (List UInt8) × Bool)) (w_net_Lost : (List (Int × (List UInt8) × Bool)) × Int → Option ((List (Int × (List UInt8) × Bool)) × Bool)) (w_net_Twice : (List (Int × (List UInt8) × Bool)) × Int → Option ((List (Int × (List UInt8) × Bool)) × Bool)) (w_net_Turned : (List (Int × (List UInt8) × Bool)) × Int × Int → Option ((List (Int × (List UInt8) × Bool)) × Bool)) (w_law13_apart : (List UInt8) × List UInt8 → Option (Int)) (N : Nat) (x : List (Int × Int × Int × Int)) : F_law13_NetMade w_net_Send w_net_Comes w_net_Lost w_net_Twice w_net_Turned w_law13_apart N x = V_law13_NetMade w_net_Send w_net_Comes w_net_Lost w_net_Twice w_net_Turned w_law13_apart N x := by kernel_rfl
noncomputable def W_law13_NetMade (N : Nat) (x : List (Int × Int × Int × Int)) : Option (Bool) :=
  cnd (decide ((80 : Int) < (↑(List.length x) : Int))) (some true)
    (obind
      (loopN N
        (fun (v : List (Int × List UInt8 × Bool) × Int × List (Int × List UInt8 × Bool)) =>
          cnd (decide (Prod.fst (Prod.snd v) < (↑(List.length x) : Int)))
            (cnd (decide ((0 : Int) ≤ Prod.fst (Prod.snd v)) && decide (Prod.fst (Prod.snd v) < (↑(List.length x) : Int)))
              (obind
                (cnd (decide ((0 : Int) ≤ Prod.fst (Prod.snd v)) && decide (Prod.fst (Prod.snd v) < (↑(List.length x) : Int)))
                  (obind
                    (cnd
                      (decide
                        (Int.tmod
                            (Prod.fst
                              (List.getD x (Int.toNat (Prod.fst (Prod.snd v)))
                                ((0 : Int), (0 : Int), (0 : Int), (0 : Int))))
                            (7 : Int) =
                          (0 : Int)))
                      (some
                        (decide
                            (Int.tmod
                                (Prod.fst
                                  (List.getD x (Int.toNat (Prod.fst (Prod.snd v)))
                                    ((0 : Int), (0 : Int), (0 : Int), (0 : Int))))
                                (7 : Int) =
                              (0 : Int)),
                          Prod.snd (Prod.snd v)))
                      (cnd
                        (decide
                          (Int.tmod
                              (Prod.fst
                                (List.getD x (Int.toNat (Prod.fst (Prod.snd v)))
                                  ((0 : Int), (0 : Int), (0 : Int), (0 : Int))))
                              (7 : Int) =
                            (1 : Int)))
                        (some
                          (decide
                              (Int.tmod
                                  (Prod.fst
                                    (List.getD x (Int.toNat (Prod.fst (Prod.snd v)))
                                      ((0 : Int), (0 : Int), (0 : Int), (0 : Int))))
                                  (7 : Int) =
                                (1 : Int)),
                            Prod.snd (Prod.snd v)))
                        (some
                          (decide
                              (Int.tmod
                                  (Prod.fst
                                    (List.getD x (Int.toNat (Prod.fst (Prod.snd v)))
                                      ((0 : Int), (0 : Int), (0 : Int), (0 : Int))))
                                  (7 : Int) =
                                (2 : Int)),
                            Prod.snd (Prod.snd v)))))
                    fun (b : Bool × List (Int × List UInt8 × Bool)) =>
                    cnd (Prod.fst b)
                      (cnd
                        (List.all
                          [wr IntKind.u8 ((97 : Int) + wr IntKind.u8 (Int.tmod (Prod.fst (Prod.snd v)) (26 : Int))),
                            wr IntKind.u8
                              ((97 : Int) + wr IntKind.u8 (wr IntKind.i64 (Int.tdiv (Prod.fst (Prod.snd v)) (26 : Int)))),
                            (122 : Int)]
                          fun (n : Int) => decide ((0 : Int) ≤ n) && decide (n < (256 : Int)))
                        (obind
                          (W_net_Send N
                            (Prod.fst v, (2 : Int),
                              bytesI
                                [wr IntKind.u8 ((97 : Int) + wr IntKind.u8 (Int.tmod (Prod.fst (Prod.snd v)) (26 : Int))),
                                  wr IntKind.u8
                                    ((97 : Int) +
                                      wr IntKind.u8 (wr IntKind.i64 (Int.tdiv (Prod.fst (Prod.snd v)) (26 : Int)))),
                                  (122 : Int)],
                              false))
                          fun (b_1 : List (Int × List UInt8 × Bool)) =>
                          cnd
                            (decide
                              ((List.length (Prod.snd b) +
                                    List.length
                                      [((2 : Int),
                                          bytesI
                                            [wr IntKind.u8
                                                ((97 : Int) +
                                                  wr IntKind.u8 (Int.tmod (Prod.fst (Prod.snd v)) (26 : Int))),
                                              wr IntKind.u8
                                                ((97 : Int) +
                                                  wr IntKind.u8
                                                    (wr IntKind.i64 (Int.tdiv (Prod.fst (Prod.snd v)) (26 : Int)))),
                                              (122 : Int)],
                                          false)]) *
                                  (32 : Nat) ≤
                                (140737488355328 : Nat)))
                            (cnd
                              (decide
                                ((↑(List.length b_1) : Int) ≠
                                  min (wr IntKind.i64 ((↑(List.length (Prod.fst v)) : Int) + (1 : Int))) (60 : Int)))
                              (some (Sum.inr false))
                              (some
                                (Sum.inl
                                  (b_1,
                                    Prod.snd b ++
                                      [((2 : Int),
                                          bytesI
                                            [wr IntKind.u8
                                                ((97 : Int) +
                                                  wr IntKind.u8 (Int.tmod (Prod.fst (Prod.snd v)) (26 : Int))),
                                              wr IntKind.u8
                                                ((97 : Int) +
                                                  wr IntKind.u8
                                                    (wr IntKind.i64 (Int.tdiv (Prod.fst (Prod.snd v)) (26 : Int)))),
                                              (122 : Int)],
                                          false)]))))
                            none)
                        none)
                      (cnd
                        (decide
                          (Int.tmod
                              (Prod.fst
                                (List.getD x (Int.toNat (Prod.fst (Prod.snd v)))
                                  ((0 : Int), (0 : Int), (0 : Int), (0 : Int))))
                              (7 : Int) =
                            (3 : Int)))
                        (obind
                          (W_net_Comes N
                            (Prod.fst v,
                              Int.tmod
                                (wr IntKind.i64
                                  (Prod.fst
                                    (Prod.snd
                                      (List.getD x (Int.toNat (Prod.fst (Prod.snd v)))
                                        ((0 : Int), (0 : Int), (0 : Int), (0 : Int))))))
                                (24 : Int)))
                          fun (b_1 : List (Int × List UInt8 × Bool) × Bool × Int × List UInt8 × Bool) =>
                          some (Sum.inl (Prod.fst b_1, Prod.snd b)))
                        (cnd
                          (decide
                            (Int.tmod
                                (Prod.fst
                                  (List.getD x (Int.toNat (Prod.fst (Prod.snd v)))
                                    ((0 : Int), (0 : Int), (0 : Int), (0 : Int))))
                                (7 : Int) =
                              (4 : Int)))
                          (obind
                            (W_net_Lost N
                              (Prod.fst v,
                                Int.tmod
                                  (wr IntKind.i64
                                    (Prod.fst
                                      (Prod.snd
                                        (List.getD x (Int.toNat (Prod.fst (Prod.snd v)))
                                          ((0 : Int), (0 : Int), (0 : Int), (0 : Int))))))
                                  (24 : Int)))
                            fun (b_1 : List (Int × List UInt8 × Bool) × Bool) =>
                            some (Sum.inl (Prod.fst b_1, Prod.snd b)))
                          (cnd
                            (decide
                              (Int.tmod
                                  (Prod.fst
                                    (List.getD x (Int.toNat (Prod.fst (Prod.snd v)))
                                      ((0 : Int), (0 : Int), (0 : Int), (0 : Int))))
                                  (7 : Int) =
                                (5 : Int)))
                            (obind
                              (W_net_Twice N
                                (Prod.fst v,
                                  Int.tmod
                                    (wr IntKind.i64
                                      (Prod.fst
                                        (Prod.snd
                                          (List.getD x (Int.toNat (Prod.fst (Prod.snd v)))
                                            ((0 : Int), (0 : Int), (0 : Int), (0 : Int))))))
                                    (24 : Int)))
                              fun (b_1 : List (Int × List UInt8 × Bool) × Bool) =>
                              some (Sum.inl (Prod.fst b_1, Prod.snd b)))
                            (cnd
                              (decide ((0 : Int) ≤ Prod.fst (Prod.snd v)) &&
                                decide (Prod.fst (Prod.snd v) < (↑(List.length x) : Int)))
                              (cnd
                                (decide ((0 : Int) ≤ Prod.fst (Prod.snd v)) &&
                                  decide (Prod.fst (Prod.snd v) < (↑(List.length x) : Int)))
                                (obind
                                  (W_net_Turned N
                                    (Prod.fst v,
                                      Int.tmod
                                        (wr IntKind.i64
                                          (Prod.fst
                                            (Prod.snd
                                              (List.getD x (Int.toNat (Prod.fst (Prod.snd v)))
                                                ((0 : Int), (0 : Int), (0 : Int), (0 : Int))))))
                                        (24 : Int),
                                      wr IntKind.i64
                                        (wr IntKind.i64
                                            (wr IntKind.i64
                                                (Prod.fst
                                                  (Prod.snd
                                                    (Prod.snd
                                                      (List.getD x (Int.toNat (Prod.fst (Prod.snd v)))
                                                        ((0 : Int), (0 : Int), (0 : Int), (0 : Int)))))) *
                                              (256 : Int)) +
                                          wr IntKind.i64
                                            (Prod.snd
                                              (Prod.snd
                                                (Prod.snd
                                                  (List.getD x (Int.toNat (Prod.fst (Prod.snd v)))
                                                    ((0 : Int), (0 : Int), (0 : Int), (0 : Int)))))))))
                                  fun (b_1 : List (Int × List UInt8 × Bool) × Bool) =>
                                  some (Sum.inl (Prod.fst b_1, Prod.snd b)))
                                none)
                              none)))))
                  none)
                fun (b : List (Int × List UInt8 × Bool) × List (Int × List UInt8 × Bool) ⊕ Bool) =>
                selim
                  (fun (b : List (Int × List UInt8 × Bool) × List (Int × List UInt8 × Bool)) =>
                    cnd (decide ((60 : Int) < (↑(List.length (Prod.fst b)) : Int))) (some (Sum.inr (Sum.inr false)))
                      (obind
                        (loopN N
                          (fun (v : Int × List (Int × List UInt8 × Bool)) =>
                            cnd (decide (Prod.fst v < (↑(List.length (Prod.fst b)) : Int)))
                              (obind
                                (cnd
                                  (decide ((0 : Int) ≤ Prod.fst v) && decide (Prod.fst v < (↑(List.length (Prod.fst b)) : Int)))
                                  (cnd
                                    (Prod.snd
                                      (Prod.snd (List.getD (Prod.fst b) (Int.toNat (Prod.fst v)) ((0 : Int), [], false))))
                                    (some ((1 : Int), Prod.snd v)) (some ((0 : Int), Prod.snd v)))
                                  none)
                                fun (b_1 : Int × List (Int × List UInt8 × Bool)) =>
                                obind
                                  (loopN N
                                    (fun (v_1 : Bool × Int × List (Int × List UInt8 × Bool)) =>
                                      cnd (decide (Prod.fst (Prod.snd v_1) < (↑(List.length (Prod.snd (Prod.snd v_1))) : Int)))
                                        (cnd (Prod.fst v_1)
                                          (some
                                            (Sum.inl
                                              (true, wr IntKind.i64 (Prod.fst (Prod.snd v_1) + (1 : Int)),
                                                Prod.snd (Prod.snd v_1))))
                                          (cnd
                                            (decide ((0 : Int) ≤ Prod.fst v) &&
                                              decide (Prod.fst v < (↑(List.length (Prod.fst b)) : Int)))
                                            (cnd
                                              (decide ((0 : Int) ≤ Prod.fst (Prod.snd v_1)) &&
                                                decide
                                                  (Prod.fst (Prod.snd v_1) < (↑(List.length (Prod.snd (Prod.snd v_1))) : Int)))
                                              (obind
                                                (W_law13_apart N
                                                  (Prod.fst
                                                      (Prod.snd
                                                        (List.getD (Prod.fst b) (Int.toNat (Prod.fst v))
                                                          ((0 : Int), [], false))),
                                                    Prod.fst
                                                      (Prod.snd
                                                        (List.getD (Prod.snd (Prod.snd v_1))
                                                          (Int.toNat (Prod.fst (Prod.snd v_1))) ((0 : Int), [], false)))))
                                                fun (b_2 : Int) =>
                                                cnd (decide (b_2 = Prod.fst b_1))
                                                  (cnd
                                                    (decide ((0 : Int) ≤ Prod.fst v) &&
                                                      decide (Prod.fst v < (↑(List.length (Prod.fst b)) : Int)))
                                                    (some
                                                      (Sum.inl
                                                        (decide
                                                            (Prod.fst
                                                                (List.getD (Prod.fst b) (Int.toNat (Prod.fst v))
                                                                  ((0 : Int), [], false)) =
                                                              (2 : Int)),
                                                          wr IntKind.i64 (Prod.fst (Prod.snd v_1) + (1 : Int)),
                                                          Prod.snd (Prod.snd v_1))))
                                                    none)
                                                  (some
                                                    (Sum.inl
                                                      (false, wr IntKind.i64 (Prod.fst (Prod.snd v_1) + (1 : Int)),
                                                        Prod.snd (Prod.snd v_1)))))
                                              none)
                                            none))
                                        (some (Sum.inr (Prod.fst v_1, Prod.snd (Prod.snd v_1)))))
                                    (false, (0 : Int), Prod.snd b_1))
                                  fun (b : Bool × List (Int × List UInt8 × Bool)) =>
                                  cnd (!Prod.fst b) (some (Sum.inr (Sum.inr false)))
                                    (some (Sum.inl (wr IntKind.i64 (Prod.fst v + (1 : Int)), Prod.snd b))))
                              (some (Sum.inr (Sum.inl (Prod.snd v)))))
                          ((0 : Int), Prod.snd b))
                        fun (b_1 : List (Int × List UInt8 × Bool) ⊕ Bool) =>
                        selim
                          (fun (b_2 : List (Int × List UInt8 × Bool)) =>
                            some (Sum.inl (Prod.fst b, wr IntKind.i64 (Prod.fst (Prod.snd v) + (1 : Int)), b_2)))
                          (fun (c : Bool) => some (Sum.inr (Sum.inr c))) b_1))
                  (fun (c : Bool) => some (Sum.inr (Sum.inr c))) b)
              none)
            (some (Sum.inr (Sum.inl ()))))
        ([], (0 : Int), []))
      fun (b : PUnit ⊕ Bool) => selim (fun (b : PUnit) => some true) (fun (c : Bool) => some c) b)
theorem F_law13_NetMade_eq (N : Nat) (x : List (Int × Int × Int × Int)) : F_law13_NetMade (W_net_Send N) (W_net_Comes N) (W_net_Lost N) (W_net_Twice N) (W_net_Turned N) (W_law13_apart N) N x = W_law13_NetMade N x := (FV_law13_NetMade_eq (W_net_Send N) (W_net_Comes N) (W_net_Lost N) (W_net_Twice N) (W_net_Turned N) (W_law13_apart N) N x).trans (by kernel_rfl)
noncomputable def conw_law13_NetMade (w : List (Int × Int × Int × Int) → Option (Bool)) : Con := ⟨8, as_law13_NetMade, bs_law13_NetMade, Bool, w, out_law13_NetMade⟩
noncomputable def con_law13_NetMade (N : Nat) : Con := conw_law13_NetMade (W_law13_NetMade N)
theorem R_law13_NetMade_eq (x : List (Int × Int × Int × Int)) (y : Bool) : retOf2 P0 Try.f8 (kpL []) (lbOf as_law13_NetMade bs_law13_NetMade x) (patS ⟨158, [], [], []⟩ pout_law13_NetMade y) = some (out_law13_NetMade y) := by kernel_rfl
theorem con_law13_NetMade_ok (N : Nat) : Con.ok P0 (con_law13_NetMade N) := ⟨⟨Try.f8, Try.func8, by kernel_rfl, by kernel_rfl⟩, fun (x : List (Int × Int × Int × Int)) (r : Bool) (hr : W_law13_NetMade N x = some r) =>
  spec2_evT (Γ := G_law13_NetMade (W_net_Send N) (W_net_Comes N) (W_net_Lost N) (W_net_Twice N) (W_net_Turned N) (W_law13_apart N) N) (Λ := L0) (pout := pout_law13_NetMade) (kp := kpL []) mixed (orcOf_ok _ (by simp only [List.mem_cons, List.not_mem_nil, or_false, forall_eq_or_imp, forall_eq]; exact ⟨con_law13_begun_ok N, con_net_Send_ok N, con_net_Comes_ok N, con_net_Lost_ok N, con_net_Twice_ok N, con_net_Turned_ok N, con_law13_apart_ok N⟩)) Try.func8 (c := bodyOf Try.f8) (by kernel_rfl) (by kernel_rfl) (of_decide_eq_true (by kernel_rfl)) ((F_law13_NetMade_eq N x).trans hr) (R_law13_NetMade_eq x r)⟩
/-! What is reckoned. -/
-- PURE
theorem wr_m {z : Int} (h : -140737488355328 ≤ z) (h2 : z ≤ 140737488355328) : wr .i64 z = z := wr_i64 (by omega) (by omega)
abbrev Gr := Int × List UInt8 × Bool
abbrev gD : Gr := ((0 : Int), ([] : List UInt8), false)
theorem Clone_g (N : Nat) (l : List Gr) (hl : l.length ≤ 1000) : W_slices_Clone_api_Gram N l = some l := by
  unfold W_slices_Clone_api_Gram
  rw [dT (by omega), cnd_t]
theorem Send_eq (N : Nat) (l : List Gr) (g : Gr) (hl : l.length ≤ 1000) : W_net_Send N (l, g) = some (if 60 ≤ l.length then l else l ++ [g]) := by
  unfold W_net_Send
  simp only [Clone_g N l hl, obind_s]
  by_cases h : 60 ≤ l.length
  · rw [dT (by omega), cnd_t, if_pos h]
  · rw [dF (by omega), cnd_f, dT (by simp only [List.length_singleton]; omega), cnd_t, if_neg h]
theorem there_eq (N : Nat) (l : List Gr) (i : Int) : W_net_there N (l, i) = some (decide (0 ≤ i ∧ i < l.length)) := by
  unfold W_net_there
  simp only
  by_cases h : 0 ≤ i
  · rw [dT h, cnd_t]
    by_cases h2 : i < l.length
    · rw [dT h2, dT ⟨h, h2⟩]
    · rw [dF h2, dF (fun q => h2 q.2)]
  · rw [dF h, cnd_f, dF (fun q => h q.1)]
theorem Lost_no (N : Nat) (l : List Gr) (i : Int) (hl : l.length ≤ 1000) (h : ¬ (0 ≤ i ∧ i < l.length)) : W_net_Lost N (l, i) = some (l, false) := by
  unfold W_net_Lost
  simp only [Clone_g N l hl, obind_s, there_eq]
  rw [dF h, Bool.not_false, cnd_t]
theorem Lost_yes (N : Nat) (l : List Gr) (i : Nat) (hl : l.length ≤ 1000) (h : i < l.length) : W_net_Lost N (l, (i : Int)) = some (l.take i ++ l.drop (i + 1), true) := by
  unfold W_net_Lost
  simp only [Clone_g N l hl, obind_s, there_eq]
  rw [dT ⟨by omega, by omega⟩, Bool.not_true, cnd_f, wr_m (by omega) (by omega)]
  unfold W_slices_Delete_api_Gram
  simp only
  rw [dT (by omega), dT (by omega), dT trivial, dT (by omega)]
  simp only [Bool.and_self, cnd_t, obind_s, Int.toNat_natCast]
theorem Comes_no (N : Nat) (l : List Gr) (i : Int) (hl : l.length ≤ 1000) (h : ¬ (0 ≤ i ∧ i < l.length)) : W_net_Comes N (l, i) = some (l, false, gD) := by
  unfold W_net_Comes
  simp only [Lost_no N l i hl h, obind_s]
  rw [Bool.not_false, cnd_t]
theorem Comes_yes (N : Nat) (l : List Gr) (i : Nat) (hl : l.length ≤ 1000) (h : i < l.length) : W_net_Comes N (l, (i : Int)) = some (l.take i ++ l.drop (i + 1), true, l.getD i gD) := by
  unfold W_net_Comes
  simp only [Lost_yes N l i hl h, obind_s]
  rw [Bool.not_true, cnd_f, dT (by omega), dT (by omega), Bool.and_self, cnd_t, Int.toNat_natCast]
theorem cnd_T {α : Type} {p : Prop} {i : Decidable p} {x y : α} (h : p) : cnd (@decide p i) x y = x := by rw [decide_eq_true h]; rfl
theorem cnd_F {α : Type} {p : Prop} {i : Decidable p} {x y : α} (h : ¬ p) : cnd (@decide p i) x y = y := by rw [decide_eq_false h]; rfl
theorem cnd_TT {α : Type} {p : Prop} {i : Decidable p} {x y : α} (h : p) : cnd (true && @decide p i) x y = x := by rw [decide_eq_true h]; rfl
theorem Twice_no (N : Nat) (l : List Gr) (i : Int) (hl : l.length ≤ 1000) (h : ¬ (0 ≤ i ∧ i < l.length) ∨ 60 ≤ l.length) : W_net_Twice N (l, i) = some (l, false) := by
  unfold W_net_Twice
  simp only [Clone_g N l hl, obind_s, there_eq]
  by_cases hi : 0 ≤ i ∧ i < l.length
  · rw [dT hi, Bool.not_true, cnd_f, dT (by omega), cnd_t]
  · rw [dF hi, Bool.not_false, cnd_t]
theorem Twice_yes (N : Nat) (l : List Gr) (i : Nat) (h : i < l.length) (h6 : l.length < 60) : W_net_Twice N (l, (i : Int)) = some (l ++ [l.getD i gD], true) := by
  have hs := Send_eq N l (l.getD i gD) (by omega)
  rw [if_neg (by omega)] at hs
  unfold W_net_Twice
  simp only [Clone_g N l (by omega), obind_s, there_eq]
  rw [dT ⟨by omega, by omega⟩, Bool.not_true, cnd_f, dF (by omega), cnd_f, dT (by omega), dT (by omega), Bool.and_self, cnd_t, Int.toNat_natCast]
  exact (congrArg (fun o => obind o fun b => some (b, true)) hs)
theorem wr_i32 {z : Int} (h : -2147483648 ≤ z) (h2 : z ≤ 2147483647) : wr .i32 z = z := by
  have e1 : lo .i32 = -2147483648 := by rfl
  have e2 : hi .i32 = 2147483647 := by rfl
  unfold wr
  rw [if_pos ⟨by omega, by omega⟩]
theorem putL_set {α : Type} {l : List α} {p : Nat} (v : α) (hp : p < l.length) : putL l [v] p = l.set p v := by
  unfold putL
  rw [List.set_eq_take_append_cons_drop, if_pos hp]
  rfl
theorem xor32 {a b : Int} (ha : 0 ≤ a ∧ a ≤ 255) (hb : 0 ≤ b ∧ b ≤ 255) : (((BitVec.ofInt 32 a ^^^ BitVec.ofInt 32 b).toNat : Nat) : Int) = ((a.toNat ^^^ b.toNat : Nat) : Int) := by
  rw [BitVec.toNat_xor, BitVec.toNat_ofInt, BitVec.toNat_ofInt]
  have e : ∀ v : Int, 0 ≤ v ∧ v ≤ 255 → (v % ((2 ^ 32 : Nat) : Int)).toNat = v.toNat := fun v h => by
    have : v % ((2 ^ 32 : Nat) : Int) = v := Int.emod_eq_of_lt h.1 (by omega)
    rw [this]
  rw [e a ha, e b hb]
def xb (c : UInt8) (n : Nat) : UInt8 := UInt8.ofNat (c.toNat ^^^ n)
abbrev by8 (s : List UInt8) : List Int := List.map (fun (b : UInt8) => (↑(UInt8.toNat b) : Int)) s
theorem by8_get (s : List UInt8) (p : Nat) : (by8 s).getD p 0 = ((s.getD p 0).toNat : Int) := by
  rw [List.getD_eq_getElem?_getD, List.getD_eq_getElem?_getD, List.getElem?_map]
  cases s[p]? <;> rfl
theorem turn_eq (N : Nat) (s : List UInt8) (p n : Nat) (hp : p < s.length) (hn : n ≤ 255) : W_net_turn N (s, (p : Int), (n : Int)) = some (s.set p (xb (s.getD p 0) n)) := by
  unfold W_net_turn
  have hc : (s.getD p 0).toNat < 256 := (s.getD p 0).toNat_lt
  have hx : (s.getD p 0).toNat ^^^ n < 2 ^ 8 := Nat.xor_lt_two_pow (by omega) (by omega)
  have hlen : (by8 s).length = s.length := by simp
  have e1 : wr .u8 (wr .i32 (((BitVec.ofInt 32 (wr .i32 ((by8 s).getD p 0)) ^^^ BitVec.ofInt 32 (n : Int)).toNat : Nat) : Int)) = (((s.getD p 0).toNat ^^^ n : Nat) : Int) := by
    rw [by8_get, wr_i32 (z := ((s.getD p 0).toNat : Int)) (by omega) (by omega), xor32 (by omega) (by omega), Int.toNat_natCast, Int.toNat_natCast, wr_i32 (by omega) (by omega), wr_u8 (by omega) (by omega)]
  simp only [Int.toNat_natCast]
  rw [e1]
  clear e1
  have d1 : (decide ((0 : Int) ≤ (p : Int)) && decide ((p : Int) < (((by8 s).length : Nat) : Int))) = true := by
    rw [hlen, dT (by omega), dT (by omega)]; rfl
  rw [d1, cnd_t, cnd_t, putL_set _ (by rw [hlen]; exact hp)]
  have hall : (List.all ((by8 s).set p (((s.getD p 0).toNat ^^^ n : Nat) : Int)) fun (n : Int) => decide ((0 : Int) ≤ n) && decide (n < (256 : Int))) = true := by
    rw [List.all_eq_true]
    intro x hx'
    rcases List.mem_or_eq_of_mem_set hx' with h | h
    · obtain ⟨c, _, rfl⟩ := List.mem_map.1 h
      have := c.toNat_lt
      simp only [Bool.and_eq_true, decide_eq_true_eq]; omega
    · subst h
      simp only [Bool.and_eq_true, decide_eq_true_eq]; omega
  rw [hall, cnd_t, List.map_set, List.map_map]
  have e2 : List.map ((fun (n : Int) => UInt8.ofNat (Int.toNat n)) ∘ fun (b : UInt8) => (↑(UInt8.toNat b) : Int)) s = s := by
    conv => rhs; rw [← List.map_id s]
    apply List.map_congr_left
    intro b _
    simp
  rw [e2]
  simp only [Int.toNat_natCast]
  rfl
/-- What is not turned. -/
def NoT (l : List Gr) (i to : Int) : Prop := ¬ (0 ≤ i ∧ i < l.length) ∨ (l.getD i.toNat gD).2.2 = true ∨ (l.getD i.toNat gD).2.1 = [] ∨ to < 0 ∨ Int.tmod to 256 = 0
/-- A datagram with bits of one of its bytes turned. -/
def tg (g : Gr) (to : Int) : Gr := (g.1, g.2.1.set ((to / 256).toNat % g.2.1.length) (xb (g.2.1.getD ((to / 256).toNat % g.2.1.length) 0) (to % 256).toNat), true)
theorem Turned_no (N : Nat) (l : List Gr) (i to : Int) (hl : l.length ≤ 1000) (h : NoT l i to) : W_net_Turned N (l, i, to) = some (l, false) := by
  unfold W_net_Turned
  simp only [Clone_g N l hl, obind_s, there_eq]
  by_cases hi : 0 ≤ i ∧ i < l.length
  case neg =>
    rw [dF hi, Bool.not_false, cnd_t, obind_s, cnd_t, obind_s, cnd_t, obind_s, cnd_t]
  rw [dT hi, Bool.not_true, cnd_f, dT hi.1, dT hi.2, Bool.and_self]
  simp only [cnd_t, obind_s]
  generalize hg : l.getD i.toNat gD = g at *
  obtain ⟨a, s, t⟩ := g
  have hg' : l.getD i.toNat ((0 : Int), [], false) = (a, s, t) := hg
  simp only [hg']
  by_cases ht : t = true
  · subst ht
    simp only [cnd_t, obind_s]
  have ht : t = false := by simpa using ht
  subst ht
  simp only [cnd_f, obind_s]
  by_cases hs : s = []
  · subst hs
    rw [dT (show ((List.length ([] : List UInt8) : Nat) : Int) = 0 from rfl)]
    simp only [cnd_t, obind_s]
  have hsl : ¬ ((s.length : Nat) : Int) = 0 := fun e => hs (List.eq_nil_of_length_eq_zero (by omega))
  rw [dF hsl]
  simp only [cnd_f, obind_s]
  by_cases h0 : to < 0
  · rw [dT h0, cnd_t]
  rw [dF h0, cnd_f]
  unfold NoT at h
  rw [hg] at h
  have h256 : Int.tmod to 256 = 0 := by
    rcases h with q | q | q | q | q
    · exact absurd hi q
    · cases q
    · exact absurd q hs
    · exact absurd q h0
    · exact q
  rw [dT h256, cnd_t]
theorem Turned_yes (N : Nat) (l : List Gr) (i : Int) (to : Int) (hl : l.length ≤ 1000) (hto : to ≤ 9223372036854775807) (h : ¬ NoT l i to) : W_net_Turned N (l, i, to) = some (l.set i.toNat (tg (l.getD i.toNat gD) to), true) := by
  unfold W_net_Turned
  unfold NoT at h
  have hi : (0 : Int) ≤ i ∧ i < l.length := Classical.byContradiction fun q => h (.inl q)
  have hil : i.toNat < l.length := by omega
  simp only [Clone_g N l hl, obind_s, there_eq]
  rw [dT hi, Bool.not_true, cnd_f, dT hi.1, dT hi.2, Bool.and_self]
  simp only [cnd_t, obind_s]
  unfold tg
  generalize hg : l.getD i.toNat gD = g at *
  obtain ⟨a, s, t⟩ := g
  have hg' : l.getD i.toNat ((0 : Int), [], false) = (a, s, t) := hg
  simp only [hg']
  simp only at h
  have ht : t = false := by
    cases t
    · rfl
    · exact absurd (.inr (.inl rfl)) h
  subst ht
  have hs : s ≠ [] := fun q => h (.inr (.inr (.inl q)))
  have h0 : ¬ to < 0 := fun q => h (.inr (.inr (.inr (.inl q))))
  have h256 : ¬ Int.tmod to 256 = 0 := fun q => h (.inr (.inr (.inr (.inr q))))
  clear h
  have hsl : ¬ ((s.length : Nat) : Int) = 0 := fun e => hs (List.eq_nil_of_length_eq_zero (by omega))
  have hsp : 0 < s.length := by omega
  simp only [cnd_f, obind_s]
  rw [dF hsl]
  simp only [cnd_f, obind_s]
  rw [dF h0, cnd_f, dF h256, cnd_f, Bool.not_false, cnd_t]
  have w1 : Int.tmod (wr .i64 (Int.tdiv to 256)) (s.length : Int) = (((to / 256).toNat % s.length : Nat) : Int) := by
    rw [Int.tdiv_eq_ediv_of_nonneg (by omega), wr_i64 (by omega) (by omega), Int.tmod_eq_emod_of_nonneg (by omega)]
    rw [Int.natCast_emod, Int.toNat_of_nonneg (by omega)]
  have w2 : wr .i32 (Int.tmod to 256) = (((to % 256).toNat : Nat) : Int) := by
    rw [Int.tmod_eq_emod_of_nonneg (by omega), wr_i32 (by omega) (by omega)]; omega
  have hp : (to / 256).toNat % s.length < s.length := Nat.mod_lt _ hsp
  rw [w1, w2, turn_eq N s _ _ hp (by omega), obind_s]
  clear w1 w2
  generalize s.set ((to / 256).toNat % s.length) (xb (s.getD ((to / 256).toNat % s.length) 0) (to % 256).toNat) = s'
  have e1 : ∀ v : Gr, putL l [v] i.toNat = l.set i.toNat v := fun v => putL_set v hil
  have e2 : ∀ v w : Gr, putL (l.set i.toNat v) [w] i.toNat = l.set i.toNat w := fun v w => by rw [putL_set w (by simpa using hil), List.set_set]
  have e3 : ∀ v : Gr, (l.set i.toNat v).getD i.toNat ((0 : Int), [], false) = v := fun v => by rw [List.getD_eq_getElem?_getD, List.getElem?_set, if_pos rfl, if_pos hil]; rfl
  have e4 : ∀ v : Gr, (putL l [v] i.toNat).length = l.length := fun v => by rw [e1, List.length_set]
  refine (cnd_TT hi.2).trans ((cnd_TT ?_).trans ?_)
  · rw [e4]; exact hi.2
  · simp only [hg', e1, e2, e3]
def cd (a b : List UInt8) : Nat → Int
  | 0 => 0
  | i + 1 => cd a b i + (if ((a.getD i 0).toNat : Int) ≠ ((b.getD i 0).toNat : Int) then 1 else 0)
def ap (a b : List UInt8) : Int := if ((a.length : Nat) : Int) ≠ ((b.length : Nat) : Int) then 9 else cd a b a.length
theorem cd_rng (a b : List UInt8) : ∀ n, 0 ≤ cd a b n ∧ cd a b n ≤ n
  | 0 => ⟨Int.le_refl _, Int.le_refl _⟩
  | n + 1 => by
    have := cd_rng a b n
    simp only [cd]
    split <;> omega
theorem apart_eq (N : Nat) (a b : List UInt8) (hN : a.length < N) (hl : a.length ≤ 1000) : W_law13_apart N (a, b) = some (ap a b) := by
  unfold W_law13_apart ap
  simp only
  by_cases h : ((a.length : Nat) : Int) ≠ ((b.length : Nat) : Int)
  · rw [dT h, cnd_t, if_pos h]
  rw [dF h, cnd_f, if_neg h]
  have hab : a.length = b.length := by omega
  refine obind_loop (fun v : Int × Int => ∃ i : Nat, v.2 = i ∧ i ≤ a.length ∧ v.1 = cd a b i) (fun v => a.length - v.2.toNat) (fun r => r = cd a b a.length) ⟨0, rfl, by omega, rfl⟩ (by show a.length - Int.toNat 0 < N; omega) ?_ ?_
  · rintro r rfl; rfl
  · rintro ⟨c, v⟩ ⟨i, hi, hil, hc⟩
    simp only at hi hc ⊢
    subst hi hc
    have hr := cd_rng a b i
    by_cases hlt : (i : Int) < a.length
    case neg =>
      right; rw [dF hlt, cnd_f]
      have : i = a.length := by omega
      subst this
      exact ⟨_, rfl, rfl⟩
    left
    rw [dT hlt, cnd_t, dT (Int.natCast_nonneg i), Bool.and_self, cnd_t, dT (show (i : Int) < b.length by omega), Bool.and_self, cnd_t, Int.toNat_natCast, wr_m (z := (i : Int) + 1) (by omega) (by omega), wr_m (z := cd a b i + 1) (by omega) (by omega)]
    by_cases hd : ((a.getD i 0).toNat : Int) ≠ ((b.getD i 0).toNat : Int)
    · rw [dT hd, cnd_t]
      refine ⟨_, rfl, ⟨i + 1, (Int.natCast_succ i).symm, by omega, ?_⟩, by show a.length - ((i : Int) + 1).toNat < a.length - (i : Int).toNat; omega⟩
      simp only [cd, if_pos hd]
    · rw [dF hd, cnd_f]
      refine ⟨_, rfl, ⟨i + 1, (Int.natCast_succ i).symm, by omega, ?_⟩, by show a.length - ((i : Int) + 1).toNat < a.length - (i : Int).toNat; omega⟩
      simp only [cd, if_neg hd]; omega
theorem ap_self (s : List UInt8) : ap s s = 0 := by
  have : ∀ n, cd s s n = 0 := fun n => by
    induction n with
    | zero => rfl
    | succ n ih => simp only [cd, ih]; rw [if_neg (fun h => h rfl)]; rfl
  unfold ap
  rw [if_neg (fun h => h rfl), this]
theorem ap_set (s : List UInt8) (p : Nat) (c : UInt8) (hp : p < s.length) (hc : c ≠ s.getD p 0) : ap (s.set p c) s = 1 := by
  have : ∀ n, cd (s.set p c) s n = if p < n then 1 else 0 := fun n => by
    induction n with
    | zero => rfl
    | succ n ih =>
      simp only [cd, ih]
      have e : (s.set p c).getD n 0 = if p = n then c else s.getD n 0 := by
        rw [List.getD_eq_getElem?_getD, List.getElem?_set, List.getD_eq_getElem?_getD]
        by_cases h : p = n
        · subst h; simp [hp]
        · rw [if_neg h, if_neg h]
      rw [e]
      by_cases h : p = n
      · subst h
        have hne : ((c.toNat : Nat) : Int) ≠ ((s.getD p 0).toNat : Int) := by
          intro q
          apply hc
          have q2 : c.toNat = (s.getD p 0).toNat := by omega
          exact UInt8.toNat_inj.1 q2
        rw [if_neg (show ¬ p < p by omega), if_pos (rfl : p = p), if_pos (show p < p + 1 by omega), if_pos hne]
        rfl
      · rw [if_neg h, if_neg (c := ((s.getD n 0).toNat : Int) ≠ _) (fun q => q rfl)]
        by_cases h2 : p < n
        · rw [if_pos h2, if_pos (by omega)]; rfl
        · rw [if_neg h2, if_neg (by omega)]; rfl
  unfold ap
  rw [List.length_set, if_neg (fun h => h rfl), this, if_pos hp]
def OKg (sent : List Gr) (g : Gr) : Prop := g.1 = 2 ∧ g.2.1.length = 3 ∧ ∃ m : Nat, m < sent.length ∧ ((g.2.2 = false ∧ g.2.1 = (sent.getD m gD).2.1) ∨ (g.2.2 = true ∧ ap g.2.1 (sent.getD m gD).2.1 = 1))
theorem OKg.more {sent : List Gr} {g s : Gr} (h : OKg sent g) : OKg (sent ++ [s]) g := by
  obtain ⟨h1, h2, m, h3, h4⟩ := h
  have e : (sent ++ [s]).getD m gD = sent.getD m gD := by rw [List.getD_eq_getElem?_getD, List.getD_eq_getElem?_getD, List.getElem?_append_left h3]
  exact ⟨h1, h2, m, by simp; omega, by rw [e]; exact h4⟩
theorem OKg.new {sent : List Gr} {s : List UInt8} (h : s.length = 3) : OKg (sent ++ [((2 : Int), s, false)]) (2, s, false) := by
  refine ⟨rfl, h, sent.length, by simp, .inl ⟨rfl, ?_⟩⟩
  rw [List.getD_eq_getElem?_getD, List.getElem?_append_right (Nat.le_refl _), Nat.sub_self]; rfl
theorem xb_ne (c : UInt8) (n : Nat) (h0 : 0 < n) (h1 : n < 256) : xb c n ≠ c := by
  intro h
  have h2 := congrArg UInt8.toNat h
  have hc := c.toNat_lt
  have hl : c.toNat ^^^ n < 2 ^ 8 := Nat.xor_lt_two_pow (by omega) (by omega)
  have h3 : c.toNat ^^^ n = c.toNat := by
    unfold xb at h2
    rw [UInt8.toNat_ofNat'] at h2
    omega
  have := congrArg (c.toNat ^^^ ·) h3
  simp only [← Nat.xor_assoc, Nat.xor_self, Nat.zero_xor] at this
  omega
theorem OKg.turn {sent : List Gr} {g : Gr} {to : Int} (h : OKg sent g) (ht : g.2.2 = false) (h0 : 0 ≤ to) (h1 : to % 256 ≠ 0) : OKg sent (tg g to) := by
  obtain ⟨a, s, t⟩ := g
  obtain ⟨h2, h3, m, h4, h5⟩ := h
  simp only at ht h2 h3 h5
  subst ht
  rcases h5 with ⟨_, h5⟩ | ⟨h5, _⟩
  case inr => cases h5
  refine ⟨h2, by simp only [tg, List.length_set]; exact h3, m, h4, .inr ⟨rfl, ?_⟩⟩
  simp only [tg]
  rw [← h5]
  exact ap_set s _ _ (Nat.mod_lt _ (by omega)) (xb_ne _ _ (by omega) (by omega))
def IM (f s : List Gr) (i : Nat) : Prop := f.length ≤ 60 ∧ s.length ≤ i ∧ ∀ g ∈ f, OKg s g
theorem getD_mem {l : List Gr} {i : Nat} (h : i < l.length) : l.getD i gD ∈ l := by
  rw [List.getD_eq_getElem?_getD, List.getElem?_eq_getElem h]; exact List.getElem_mem h
theorem IM.cut {f s : List Gr} {i : Nat} (h : IM f s i) (k : Nat) : IM (f.take k ++ f.drop (k + 1)) s (i + 1) :=
  ⟨by simp only [List.length_append, List.length_take, List.length_drop]; have := h.1; omega, by have := h.2.1; omega, fun g hg => h.2.2 g ((List.mem_append.1 hg).elim List.mem_of_mem_take List.mem_of_mem_drop)⟩
theorem IM.same {f s : List Gr} {i : Nat} (h : IM f s i) : IM f s (i + 1) := ⟨h.1, by have := h.2.1; omega, h.2.2⟩
theorem IM.turn {f s : List Gr} {i : Nat} (h : IM f s i) {k to : Int} (hn : ¬ NoT f k to) : IM (f.set k.toNat (tg (f.getD k.toNat gD) to)) s (i + 1) := by
  unfold NoT at hn
  have hi : (0 : Int) ≤ k ∧ k < f.length := Classical.byContradiction fun q => hn (.inl q)
  have ht : (f.getD k.toNat gD).2.2 = false := by
    cases q : (f.getD k.toNat gD).2.2
    · rfl
    · exact absurd (.inr (.inl q)) hn
  have h0 : ¬ to < 0 := fun q => hn (.inr (.inr (.inr (.inl q))))
  have h256 : ¬ Int.tmod to 256 = 0 := fun q => hn (.inr (.inr (.inr (.inr q))))
  rw [Int.tmod_eq_emod_of_nonneg (by omega)] at h256
  refine ⟨by rw [List.length_set]; exact h.1, by have := h.2.1; omega, fun g hg => ?_⟩
  rcases List.mem_or_eq_of_mem_set hg with q | q
  · exact h.2.2 g q
  · subst q
    exact (h.2.2 _ (getD_mem (by omega))).turn ht (by omega) h256
theorem step_suff {α σ ρ γ δ : Type} {m : Option α} {K : α → Option (σ ⊕ ρ)} {C : σ → Prop} (Q : γ → δ → Prop) (A : γ → δ → α) (R : γ → δ → σ) (h1 : ∃ f s, m = some (A f s) ∧ Q f s) (h2 : ∀ f s, Q f s → K (A f s) = some (.inl (R f s)) ∧ C (R f s)) : ∃ y, obind m K = some (.inl y) ∧ C y := by
  obtain ⟨f, s, e1, e2⟩ := h1
  obtain ⟨e3, e4⟩ := h2 f s e2
  exact ⟨R f s, by rw [e1, obind_s, e3], e4⟩
theorem loop_val {σ ρ : Type} {f : σ → Option (σ ⊕ ρ)} {x : σ} {N : Nat} {r0 : ρ} (I : σ → Prop) (m : σ → Nat) (hx : I x) (hm : m x < N) (hs : ∀ x, I x → (∃ y, f x = some (.inl y) ∧ I y ∧ m y < m x) ∨ f x = some (.inr r0)) : loopN N f x = some r0 := by
  obtain ⟨r, h1, h2⟩ := loopN_run (N := N) (f := f) I m (fun r => r = r0) (fun x hx => (hs x hx).elim .inl (fun h => .inr ⟨_, h, rfl⟩)) x hx hm
  rw [h1, h2]
theorem near_eq (N : Nat) (f s : List Gr) (k : Nat) (want : Int) (hN : s.length < N) (hN2 : 100 ≤ N) (hs : s.length ≤ 100) (hk : k < f.length) (hlen : (f.getD k gD).2.1.length = 3) (h2 : (f.getD k gD).1 = 2) (w : Nat) (hw : w < s.length) (hap : ap (f.getD k gD).2.1 (s.getD w gD).2.1 = want) : loopN N
                                  (fun (v_1 : Bool × Int × List (Int × List UInt8 × Bool)) =>
                                    cnd (decide (Prod.fst (Prod.snd v_1) < (↑(List.length (Prod.snd (Prod.snd v_1))) : Int)))
                                      (cnd (Prod.fst v_1)
                                        (some
                                          (Sum.inl
                                            (true, wr IntKind.i64 (Prod.fst (Prod.snd v_1) + (1 : Int)),
                                              Prod.snd (Prod.snd v_1))))
                                        (cnd
                                          (decide ((0 : Int) ≤ (k : Int)) &&
                                            decide ((k : Int) < (↑(List.length f) : Int)))
                                          (cnd
                                            (decide ((0 : Int) ≤ Prod.fst (Prod.snd v_1)) &&
                                              decide
                                                (Prod.fst (Prod.snd v_1) < (↑(List.length (Prod.snd (Prod.snd v_1))) : Int)))
                                            (obind
                                              (W_law13_apart N
                                                (Prod.fst
                                                    (Prod.snd
                                                      (List.getD f (Int.toNat (k : Int))
                                                        ((0 : Int), [], false))),
                                                  Prod.fst
                                                    (Prod.snd
                                                      (List.getD (Prod.snd (Prod.snd v_1))
                                                        (Int.toNat (Prod.fst (Prod.snd v_1))) ((0 : Int), [], false)))))
                                              fun (b_2 : Int) =>
                                              cnd (decide (b_2 = want))
                                                (cnd
                                                  (decide ((0 : Int) ≤ (k : Int)) &&
                                                    decide ((k : Int) < (↑(List.length f) : Int)))
                                                  (some
                                                    (Sum.inl
                                                      (decide
                                                          (Prod.fst
                                                              (List.getD f (Int.toNat (k : Int))
                                                                ((0 : Int), [], false)) =
                                                            (2 : Int)),
                                                        wr IntKind.i64 (Prod.fst (Prod.snd v_1) + (1 : Int)),
                                                        Prod.snd (Prod.snd v_1))))
                                                  none)
                                                (some
                                                  (Sum.inl
                                                    (false, wr IntKind.i64 (Prod.fst (Prod.snd v_1) + (1 : Int)),
                                                      Prod.snd (Prod.snd v_1)))))
                                            none)
                                          none))
                                      (some (Sum.inr (Prod.fst v_1, Prod.snd (Prod.snd v_1)))))
                                  (false, (0 : Int), s) = some (true, s) := by
  refine loop_val (fun v : Bool × Int × List Gr => ∃ m : Nat, v.2.1 = m ∧ v.2.2 = s ∧ m ≤ s.length ∧ (v.1 = true ∨ m ≤ w)) (fun v => s.length - v.2.1.toNat) ⟨0, rfl, rfl, by omega, .inr (by omega)⟩ (by show s.length - Int.toNat 0 < N; omega) (fun v hv => ?_)
  obtain ⟨near, v, ss⟩ := v
  obtain ⟨m, hm, hss, hml, hor⟩ := hv
  simp only at hm hss hor ⊢
  subst hm
  replace hss := hss.symm
  subst hss
  by_cases hlt : (m : Int) < s.length
  case neg =>
    right
    rw [dF hlt, cnd_f]
    rcases hor with rfl | hor
    · rfl
    · omega
  left
  rw [dT hlt, cnd_t, wr_m (z := (m : Int) + 1) (by omega) (by omega)]
  have hms : s.length - ((m : Int) + 1).toNat < s.length - (m : Int).toNat := by omega
  by_cases hn : near = true
  · subst hn
    rw [cnd_t]
    exact ⟨_, rfl, ⟨m + 1, (Int.natCast_succ m).symm, rfl, by omega, .inl rfl⟩, hms⟩
  have hn : near = false := by simpa using hn
  subst hn
  have hmw : m ≤ w := by
    rcases hor with q | q
    · cases q
    · exact q
  rw [cnd_f, dT (Int.natCast_nonneg k), dT (show (k : Int) < f.length by omega), Bool.and_self, cnd_t, dT (Int.natCast_nonneg m), Bool.and_self, cnd_t, cnd_t, Int.toNat_natCast, Int.toNat_natCast]
  have ha := apart_eq N (f.getD k gD).2.1 (s.getD m gD).2.1 (by omega) (by omega)
  rw [show ((0 : Int), ([] : List UInt8), false) = gD from rfl, ha, obind_s]
  by_cases hq : ap (f.getD k gD).2.1 (s.getD m gD).2.1 = want
  · rw [dT hq, cnd_t, dT h2]
    exact ⟨_, rfl, ⟨m + 1, (Int.natCast_succ m).symm, rfl, by omega, .inl rfl⟩, hms⟩
  · rw [dF hq, cnd_f]
    have : m ≠ w := fun e => hq (by rw [e]; exact hap)
    exact ⟨_, rfl, ⟨m + 1, (Int.natCast_succ m).symm, rfl, by omega, .inr (by omega)⟩, hms⟩

theorem wr_u8m {z : Int} : wr .u8 z = z % 256 := by rw [wr_eq]; simp [IntKind.wrap, IntKind.bits, IntKind.signed]
theorem u8r (z : Int) : 0 ≤ wr .u8 z ∧ wr .u8 z ≤ 255 := by rw [wr_u8m]; omega
theorem law_aux (N : Nat) (hN : 1000 ≤ N) (x : List (Int × Int × Int × Int)) (hx : ∀ j : Nat, (0 ≤ (x.getD j (0, 0, 0, 0)).1 ∧ (x.getD j (0, 0, 0, 0)).1 ≤ 255) ∧ (0 ≤ (x.getD j (0, 0, 0, 0)).2.1 ∧ (x.getD j (0, 0, 0, 0)).2.1 ≤ 255) ∧ (0 ≤ (x.getD j (0, 0, 0, 0)).2.2.1 ∧ (x.getD j (0, 0, 0, 0)).2.2.1 ≤ 255) ∧ 0 ≤ (x.getD j (0, 0, 0, 0)).2.2.2 ∧ (x.getD j (0, 0, 0, 0)).2.2.2 ≤ 255) : W_law13_NetMade N x = some true := by
  unfold W_law13_NetMade
  by_cases c1 : (80 : Int) < x.length
  · rw [dT c1, cnd_t]
  rw [dF c1, cnd_f]
  refine obind_loop (fun v : List Gr × Int × List Gr => ∃ i : Nat, v.2.1 = i ∧ i ≤ x.length ∧ IM v.1 v.2.2 i) (fun v => x.length - v.2.1.toNat) (fun r : PUnit ⊕ Bool => r = .inl ()) ⟨0, rfl, by omega, by simp, by simp, fun g hg => by simp at hg⟩ (by show x.length - Int.toNat 0 < N; omega) ?_ ?_
  · rintro r rfl; rw [selim_l]
  rintro ⟨f, v, s⟩ ⟨i, hi, hil, hI⟩
  simp only at hi hI ⊢
  subst hi
  by_cases hlt : (i : Int) < x.length
  case neg => right; rw [dF hlt, cnd_f]; exact ⟨_, rfl, rfl⟩
  left
  rw [dT hlt, cnd_t, dT (Int.natCast_nonneg i), Bool.and_self, cnd_t, cnd_t, Int.toNat_natCast]
  have hq := hx i
  generalize x.getD i (0, 0, 0, 0) = q at *
  obtain ⟨q0, q1, q2, q3⟩ := q
  obtain ⟨r0, r1, r2, r3⟩ := hq
  simp only at r0 r1 r2 r3 ⊢
  refine step_suff (fun f' s' => IM f' s' (i + 1)) (fun f' s' => .inl (f', s')) (fun f' s' => (f', (i : Int) + 1, s')) ?_ ?_
  · have hf60 := hI.1
    have hs80 := hI.2.1
    have hi80 : i < 80 := by omega
    have hA : ∀ t : Int, cnd (decide (t = 0)) (some (decide (t = 0), s)) (cnd (decide (t = 1)) (some (decide (t = 1), s)) (some (decide (t = 2), s))) = some (decide (t = 0 ∨ t = 1 ∨ t = 2), s) := fun t => by
      by_cases h0 : t = 0
      · rw [dT h0, cnd_t, dT (.inl h0)]
      rw [dF h0, cnd_f]
      by_cases h1 : t = 1
      · rw [dT h1, cnd_t, dT (.inr (.inl h1))]
      rw [dF h1, cnd_f]
      by_cases h2 : t = 2
      · rw [dT h2, dT (.inr (.inr h2))]
      · rw [dF h2, dF (fun q => by omega)]
    rw [hA, obind_s]
    simp only
    by_cases hsend : Int.tmod q0 7 = 0 ∨ Int.tmod q0 7 = 1 ∨ Int.tmod q0 7 = 2
    · rw [dT hsend, cnd_t]
      have hb1 := u8r (97 + wr .u8 (Int.tmod (i : Int) 26))
      have hb2 := u8r (97 + wr .u8 (wr .i64 (Int.tdiv (i : Int) 26)))
      generalize wr .u8 (97 + wr .u8 (Int.tmod (i : Int) 26)) = b1 at *
      generalize wr .u8 (97 + wr .u8 (wr .i64 (Int.tdiv (i : Int) 26))) = b2 at *
      have hall : List.all [b1, b2, (122 : Int)] (fun (n : Int) => decide ((0 : Int) ≤ n) && decide (n < (256 : Int))) = true := by
        simp only [List.all_cons, List.all_nil, Bool.and_true, Bool.and_eq_true, decide_eq_true_eq]; omega
      have hbl : (bytesI [b1, b2, (122 : Int)]).length = 3 := by simp [bytesI]
      rw [hall, cnd_t, Send_eq N f _ (by omega), obind_s]
      generalize bytesI [b1, b2, (122 : Int)] = tx at *
      rw [dT (show (List.length s + List.length [((2 : Int), tx, false)]) * 32 ≤ 140737488355328 by simp only [List.length_singleton]; omega), cnd_t, wr_m (z := ((f.length : Nat) : Int) + 1) (by omega) (by omega)]
      by_cases h60 : 60 ≤ f.length
      · simp only [if_pos h60]
        rw [dF (show ¬ ((f.length : Nat) : Int) ≠ min (((f.length : Nat) : Int) + 1) 60 by omega), cnd_f]
        exact ⟨f, _, rfl, hI.1, by simp only [List.length_append, List.length_singleton]; omega, fun g hg => (hI.2.2 g hg).more⟩
      · simp only [if_neg h60]
        refine ⟨f ++ [((2 : Int), tx, false)], _, cnd_F ?_, by simp only [List.length_append, List.length_singleton]; omega, by simp only [List.length_append, List.length_singleton]; omega, fun g hg => ?_⟩
        · simp only [List.length_append, List.length_singleton]; omega
        · rcases List.mem_append.1 hg with q | q
          · exact (hI.2.2 g q).more
          · rw [List.mem_singleton] at q
            subst q
            exact OKg.new hbl
    · rw [dF hsend, cnd_f]
      have w1 : Int.tmod (wr .i64 q1) 24 = q1 % 24 := by rw [wr_m (by omega) (by omega), Int.tmod_eq_emod_of_nonneg r1.1]
      have w2 : wr .i64 (wr .i64 (wr .i64 q2 * 256) + wr .i64 q3) = q2 * 256 + q3 := by
        rw [wr_m (z := q2) (by omega) (by omega), wr_m (z := q2 * 256) (by omega) (by omega), wr_m (z := q3) (by omega) (by omega), wr_m (by omega) (by omega)]
      rw [w1, w2]
      clear w1 w2
      have hk0 : 0 ≤ q1 % 24 := Int.emod_nonneg _ (by omega)
      obtain ⟨k, hk⟩ : ∃ k : Nat, q1 % 24 = k := ⟨(q1 % 24).toNat, by omega⟩
      rw [hk]
      by_cases h3 : Int.tmod q0 7 = 3
      · rw [dT h3, cnd_t]
        by_cases hkf : k < f.length
        · rw [Comes_yes N f k (by omega) hkf, obind_s]
          exact ⟨_, s, rfl, hI.cut k⟩
        · rw [Comes_no N f k (by omega) (by omega), obind_s]
          exact ⟨_, s, rfl, hI.same⟩
      rw [dF h3, cnd_f]
      by_cases h4 : Int.tmod q0 7 = 4
      · rw [dT h4, cnd_t]
        by_cases hkf : k < f.length
        · rw [Lost_yes N f k (by omega) hkf, obind_s]
          exact ⟨_, s, rfl, hI.cut k⟩
        · rw [Lost_no N f k (by omega) (by omega), obind_s]
          exact ⟨_, s, rfl, hI.same⟩
      rw [dF h4, cnd_f]
      by_cases h5 : Int.tmod q0 7 = 5
      · rw [dT h5, cnd_t]
        by_cases hkf : k < f.length ∧ f.length < 60
        · rw [Twice_yes N f k hkf.1 hkf.2, obind_s]
          refine ⟨_, s, rfl, by simp only [List.length_append, List.length_singleton]; omega, by omega, fun g hg => ?_⟩
          rcases List.mem_append.1 hg with q | q
          · exact hI.2.2 g q
          · rw [List.mem_singleton] at q
            subst q
            exact hI.2.2 _ (getD_mem hkf.1)
        · rw [Twice_no N f k (by omega) (by omega), obind_s]
          exact ⟨_, s, rfl, hI.same⟩
      rw [dF h5, cnd_f]
      simp only [dT hlt, Bool.and_self, cnd_t]
      by_cases hn : NoT f (k : Int) (q2 * 256 + q3)
      · rw [Turned_no N f _ _ (by omega) hn, obind_s]
        exact ⟨_, s, rfl, hI.same⟩
      · rw [Turned_yes N f _ _ (by omega) (by omega) hn, obind_s]
        exact ⟨_, s, rfl, hI.turn hn⟩
  · intro f' s' hI'
    have hf60 := hI'.1
    have hs80 := hI'.2.1
    refine ⟨?_, ⟨i + 1, (Int.natCast_succ i).symm, by omega, hI'⟩, by show x.length - ((i : Int) + 1).toNat < x.length - (i : Int).toNat; omega⟩
    rw [selim_l]
    simp only
    rw [dF (show ¬ (60 : Int) < f'.length by omega), cnd_f, wr_m (z := (i : Int) + 1) (by omega) (by omega)]
    refine obind_loop (fun v : Int × List Gr => ∃ k : Nat, v.1 = k ∧ k ≤ f'.length ∧ v.2 = s') (fun v => f'.length - v.1.toNat) (fun r : List Gr ⊕ Bool => r = .inl s') ⟨0, rfl, by omega, rfl⟩ (by show f'.length - Int.toNat 0 < N; omega) ?_ ?_
    · rintro r rfl; rw [selim_l]
    rintro ⟨v, ss⟩ ⟨k, hk, hkl, hss⟩
    simp only at hk hss ⊢
    subst hk
    replace hss := hss.symm
    subst hss
    by_cases hlt2 : (k : Int) < f'.length
    case neg => right; rw [dF hlt2, cnd_f]; exact ⟨_, rfl, rfl⟩
    left
    have hkf : k < f'.length := by omega
    obtain ⟨o1, o2, w, o3, o4⟩ := hI'.2.2 _ (getD_mem hkf)
    rw [dT hlt2, cnd_t, dT (Int.natCast_nonneg k), Bool.and_self, cnd_t, wr_m (z := (k : Int) + 1) (by omega) (by omega)]
    have key : ∀ want : Int, ap (f'.getD k gD).2.1 (s'.getD w gD).2.1 = want → _ := fun want hap => near_eq N f' s' k want (by omega) (by omega) (by omega) hkf o2 o1 w o3 hap
    have hne : ∀ t : Bool, (f'.getD k gD).2.2 = t → ap (f'.getD k gD).2.1 (s'.getD w gD).2.1 = if t = true then 1 else 0 := fun t ht => by
      rcases o4 with ⟨a1, a2⟩ | ⟨a1, a2⟩
      · rw [← ht, a1, a2, ap_self]; rfl
      · rw [← ht, a1, a2]; rfl
    have hd : (dT hlt2 : decide ((k : Int) < f'.length) = true) = dT hlt2 := rfl
    simp only [dT hlt2, dT (Int.natCast_nonneg k), Bool.and_self] at key
    have hgd : (f'.getD (Int.toNat (k : Int)) ((0 : Int), [], false)).2.2 = (f'.getD k gD).2.2 := rfl
    rw [hgd]
    cases ht : (f'.getD k gD).2.2 with
    | true =>
      rw [cnd_t, obind_s, key 1 (hne true ht), obind_s, Bool.not_true, cnd_f]
      exact ⟨_, rfl, ⟨k + 1, (Int.natCast_succ k).symm, by omega, rfl⟩, by show f'.length - ((k : Int) + 1).toNat < f'.length - (k : Int).toNat; omega⟩
    | false =>
      rw [cnd_f, obind_s, key 0 (hne false ht), obind_s, Bool.not_true, cnd_f]
      exact ⟨_, rfl, ⟨k + 1, (Int.natCast_succ k).symm, by omega, rfl⟩, by show f'.length - ((k : Int) + 1).toNat < f'.length - (k : Int).toNat; omega⟩
def NN : Nat := 1000
theorem law_true (y0 : List (Int × Int × Int × Int)) (h0 : Twf (.list (.agg (.pair (.int .u8) (.pair (.int .u8) (.pair (.int .u8) (.int .u8)))))) y0) : W_law13_NetMade NN y0 = some true := by
  refine law_aux NN (Nat.le_refl _) y0 (fun j => ?_)
  rw [List.getD_eq_getElem?_getD]
  by_cases hj : j < y0.length
  · rw [List.getElem?_eq_getElem hj]
    exact h0.2 _ (List.getElem_mem hj)
  · rw [List.getElem?_eq_none (by omega)]; simp

theorem spec (y0 : List (Int × Int × Int × Int)) (h0 : Twf (.list (.agg (.pair (.int .u8) (.pair (.int .u8) (.pair (.int .u8) (.int .u8)))))) y0) : Spec2 P0 8 [valW (.list (.agg (.pair (.int .u8) (.pair (.int .u8) (.pair (.int .u8) (.int .u8)))))) y0] [] (.bs true) [] [] := (con_law13_NetMade_ok NN).2 y0 true (law_true y0 h0)
theorem lifted (os : Os) (started : os.Started) (H : Type) (enc : TypeId × Value → H) :
    ReturnsInHanded {} Try.checked os 8 .any (Rows.netMadeSpec.pre6 enc Try.prog Try.f8 Rows.netMadeRow.domain false) (Rows.netMadeSpec.post enc Try.prog Try.f8 false true false false) := by
  refine returnsInHanded_of_change (C := Try.checked) own started (by kernel_rfl) Try.func8
    (ChangeSpec.witness6 (enc := enc) (C := Try.checked) false ⟨#[], #[.slice none 0 0], []⟩ 8 (by kernel_rfl) (by kernel_rfl) (by kernel_rfl) (by kernel_rfl)) ?_
  intro W base args ds gs before hval0 hW hcnd _
  have hval : ∀ (j : Nat) t v, Try.f8.params[j]? = some t → args[j]? = some v → Value.okWide Try.prog W .any base t v := hval0
  have hW' := hW
  obtain ⟨p, q, hA0, hV, rfl, hfz, hnd⟩ := hW
  have hA : DataW.TrodAll enc Try.prog W 0 (fun _ => true) true Try.f8.params.toList args.toList ds p := hA0
  rw [Try.params8] at hA hval
  obtain ⟨v0, vs0, d0, ds0, p0, q0, hargs, rfl, rfl, h0, r0⟩ := trodAll_cons hA
  obtain ⟨rfl, rfl, rfl⟩ := trodAll_nil r0
  obtain rfl : args = #[v0] := by cases args; simp_all
  obtain ⟨rfl, rfl⟩ := trodVars_none hV
  have k0 := h0
  have lt0 : ∀ x ∈ p0, x.block < W.heap.size := by obtain ⟨m, hm⟩ := k0; exact DataW.trod_lt m _ _ _ hm
  obtain ⟨y0, rp0, wf0⟩ := arg_ok (n := 12) (ty := (.list (.agg (.pair (.int .u8) (.pair (.int .u8) (.pair (.int .u8) (.int .u8))))))) (by kernel_rfl) (hval 0 _ v0 rfl rfl) h0
  clear hA0 hval0
  refine (law_of2 (spec y0 wf0) W #[v0] (.cons rp0 .nil)).mono fun e W' ⟨he, bel⟩ => ?_
  subst he
  exact ⟨_, rfl, _, _, _, [], _, [], hW', trodAll_mk1 (shut_bool Try.underlying4 _), (trodAll_cons_mk (Below.trod laidOut (by kernel_rfl) (of_decide_eq_true (by kernel_rfl)) k0 bel lt0) trodAll_mk0), rfl, bel.frame _, fun h => by cases h⟩

theorem over : Rows.netMadeRow.holds Try.pinned (OpenSpec.ofChange Rows.netMadeSpec) :=
  OpenClaim.holds_of_wide 8 Try.f8 rfl rfl rfl rfl rfl rfl rfl ⟨rfl, rfl, rfl, rfl, rfl⟩ rfl rfl rfl rfl rfl (by kernel_rfl) Try.func8 (by kernel_rfl)
    (of_decide_eq_true (by kernel_rfl)) (by unfold Func.isWrapper; first | (rw [if_pos (by decide +kernel)]; kernel_rfl) | (rw [if_neg (by decide +kernel)]; exact ⟨rfl, rfl⟩))
    (fun os started H enc _ => lifted os started H enc)

theorem holds : Rows.NetMadeSaid := over
end Go.Proofs.Ytnkalddmjdicfaa.netMadeX
