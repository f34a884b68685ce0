/- WaitGaps: for every u16 the call returns true. The law is brought to a function of Lean's own (W4) by the machine of the texts beside it, and that is reckoned. -/
import Derived.Test.YtelhmjkiajbobabSymG
import Derived.Test.YtelhmjkiajbobabSymF
import Derived.Test.YtelhmjkiajbobabRows
import Derived.WalkKit
import Derived.ProofKit
namespace Go.Proofs.Ytelhmjkiajbobab.waitGapsX
open Go.Abs Go.RowKit Go.ChangeShapes Go.WideShapes Go.ChangeAt
set_option maxRecDepth 100000
set_option linter.unusedVariables false
noncomputable def noG : OrcT := fun _ _ _ => .fail
abbrev iT : Ty := .int .i64
noncomputable abbrev P0 : Program := Try.prog
noncomputable def G : OrcT := orcD noG P0 [6,7,8,9,10,11,12,13] 60 5
noncomputable def F4 (N : Nat) (now : Int) : Option Bool :=
  evK G P0 [(7, .loop0 [(3, .box 600003 23 (.agg (.pair iT iT))), (5, .acc 600005 3 iT), (6, .val iT)] 0 [(3, .box 600003 23 (.agg (.pair iT iT))), (5, .acc 600005 3 iT)])] [] N 100 (Try.f4.body.getD .skip) ⟨76, slots 0 [.int .u16 now], tabU [] [], []⟩ (kRet P0 Try.f4 [.bool])
noncomputable def W4 (N : Nat) (now : Int) : Option Bool :=
  obind
    (loopN N
      (fun (v : (Int × Int) × List Int × Int) =>
        cnd (decide (Prod.snd (Prod.snd v) < (40 : Int)))
          (cnd (decide (Prod.fst (Prod.fst v) = (0 : Int)))
            (cnd (decide (Prod.fst (Prod.fst v) = (0 : Int)))
              (cnd
                (decide
                  ((List.length (Prod.fst (Prod.snd v)) + List.length [Prod.snd (Prod.snd v)]) * (8 : Nat) ≤
                    (140737488355328 : Nat)))
                (cnd (decide (Prod.fst (Prod.fst v) = (0 : Int)))
                  (some
                    (Sum.inl
                      ((wr IntKind.i64 ((0 : Int) + (1 : Int)),
                          wr IntKind.i64
                            (wr IntKind.i64 (wr IntKind.i64 now + Prod.snd (Prod.snd v)) +
                              wr IntKind.i64 ((2 : Int) * (2 : Int) ^ (0 : Nat)))),
                        Prod.fst (Prod.snd v) ++ [Prod.snd (Prod.snd v)],
                        wr IntKind.i64 (Prod.snd (Prod.snd v) + (1 : Int)))))
                  (cnd (!decide (min (max (Prod.fst (Prod.fst v)) (0 : Int)) (3 : Int) < (0 : Int)))
                    (some
                      (Sum.inl
                        ((wr IntKind.i64 (Prod.fst (Prod.fst v) + (1 : Int)),
                            wr IntKind.i64
                              (wr IntKind.i64 (wr IntKind.i64 now + Prod.snd (Prod.snd v)) +
                                wr IntKind.i64
                                  ((2 : Int) *
                                    (2 : Int) ^
                                      min (Int.toNat (min (max (Prod.fst (Prod.fst v)) (0 : Int)) (3 : Int)))
                                        (64 : Nat)))),
                          Prod.fst (Prod.snd v) ++ [Prod.snd (Prod.snd v)],
                          wr IntKind.i64 (Prod.snd (Prod.snd v) + (1 : Int)))))
                    none))
                none)
              (cnd (decide (Prod.snd (Prod.fst v) ≤ wr IntKind.i64 (wr IntKind.i64 now + Prod.snd (Prod.snd v))))
                (cnd
                  (decide
                    ((List.length (Prod.fst (Prod.snd v)) + List.length [Prod.snd (Prod.snd v)]) * (8 : Nat) ≤
                      (140737488355328 : Nat)))
                  (cnd (decide (Prod.fst (Prod.fst v) = (0 : Int)))
                    (some
                      (Sum.inl
                        ((wr IntKind.i64 ((0 : Int) + (1 : Int)),
                            wr IntKind.i64
                              (wr IntKind.i64 (wr IntKind.i64 now + Prod.snd (Prod.snd v)) +
                                wr IntKind.i64 ((2 : Int) * (2 : Int) ^ (0 : Nat)))),
                          Prod.fst (Prod.snd v) ++ [Prod.snd (Prod.snd v)],
                          wr IntKind.i64 (Prod.snd (Prod.snd v) + (1 : Int)))))
                    (cnd (!decide (min (max (Prod.fst (Prod.fst v)) (0 : Int)) (3 : Int) < (0 : Int)))
                      (some
                        (Sum.inl
                          ((wr IntKind.i64 (Prod.fst (Prod.fst v) + (1 : Int)),
                              wr IntKind.i64
                                (wr IntKind.i64 (wr IntKind.i64 now + Prod.snd (Prod.snd v)) +
                                  wr IntKind.i64
                                    ((2 : Int) *
                                      (2 : Int) ^
                                        min (Int.toNat (min (max (Prod.fst (Prod.fst v)) (0 : Int)) (3 : Int)))
                                          (64 : Nat)))),
                            Prod.fst (Prod.snd v) ++ [Prod.snd (Prod.snd v)],
                            wr IntKind.i64 (Prod.snd (Prod.snd v) + (1 : Int)))))
                      none))
                  none)
                (some
                  (Sum.inl
                    ((Prod.fst (Prod.fst v), Prod.snd (Prod.fst v)), Prod.fst (Prod.snd v),
                      wr IntKind.i64 (Prod.snd (Prod.snd v) + (1 : Int)))))))
            (cnd (!decide ((3 : Int) ≤ Prod.fst (Prod.fst v)))
              (cnd (decide (Prod.fst (Prod.fst v) = (0 : Int)))
                (cnd
                  (decide
                    ((List.length (Prod.fst (Prod.snd v)) + List.length [Prod.snd (Prod.snd v)]) * (8 : Nat) ≤
                      (140737488355328 : Nat)))
                  (cnd (decide (Prod.fst (Prod.fst v) = (0 : Int)))
                    (some
                      (Sum.inl
                        ((wr IntKind.i64 ((0 : Int) + (1 : Int)),
                            wr IntKind.i64
                              (wr IntKind.i64 (wr IntKind.i64 now + Prod.snd (Prod.snd v)) +
                                wr IntKind.i64 ((2 : Int) * (2 : Int) ^ (0 : Nat)))),
                          Prod.fst (Prod.snd v) ++ [Prod.snd (Prod.snd v)],
                          wr IntKind.i64 (Prod.snd (Prod.snd v) + (1 : Int)))))
                    (cnd (!decide (min (max (Prod.fst (Prod.fst v)) (0 : Int)) (3 : Int) < (0 : Int)))
                      (some
                        (Sum.inl
                          ((wr IntKind.i64 (Prod.fst (Prod.fst v) + (1 : Int)),
                              wr IntKind.i64
                                (wr IntKind.i64 (wr IntKind.i64 now + Prod.snd (Prod.snd v)) +
                                  wr IntKind.i64
                                    ((2 : Int) *
                                      (2 : Int) ^
                                        min (Int.toNat (min (max (Prod.fst (Prod.fst v)) (0 : Int)) (3 : Int)))
                                          (64 : Nat)))),
                            Prod.fst (Prod.snd v) ++ [Prod.snd (Prod.snd v)],
                            wr IntKind.i64 (Prod.snd (Prod.snd v) + (1 : Int)))))
                      none))
                  none)
                (cnd (decide (Prod.snd (Prod.fst v) ≤ wr IntKind.i64 (wr IntKind.i64 now + Prod.snd (Prod.snd v))))
                  (cnd
                    (decide
                      ((List.length (Prod.fst (Prod.snd v)) + List.length [Prod.snd (Prod.snd v)]) * (8 : Nat) ≤
                        (140737488355328 : Nat)))
                    (cnd (decide (Prod.fst (Prod.fst v) = (0 : Int)))
                      (some
                        (Sum.inl
                          ((wr IntKind.i64 ((0 : Int) + (1 : Int)),
                              wr IntKind.i64
                                (wr IntKind.i64 (wr IntKind.i64 now + Prod.snd (Prod.snd v)) +
                                  wr IntKind.i64 ((2 : Int) * (2 : Int) ^ (0 : Nat)))),
                            Prod.fst (Prod.snd v) ++ [Prod.snd (Prod.snd v)],
                            wr IntKind.i64 (Prod.snd (Prod.snd v) + (1 : Int)))))
                      (cnd (!decide (min (max (Prod.fst (Prod.fst v)) (0 : Int)) (3 : Int) < (0 : Int)))
                        (some
                          (Sum.inl
                            ((wr IntKind.i64 (Prod.fst (Prod.fst v) + (1 : Int)),
                                wr IntKind.i64
                                  (wr IntKind.i64 (wr IntKind.i64 now + Prod.snd (Prod.snd v)) +
                                    wr IntKind.i64
                                      ((2 : Int) *
                                        (2 : Int) ^
                                          min (Int.toNat (min (max (Prod.fst (Prod.fst v)) (0 : Int)) (3 : Int)))
                                            (64 : Nat)))),
                              Prod.fst (Prod.snd v) ++ [Prod.snd (Prod.snd v)],
                              wr IntKind.i64 (Prod.snd (Prod.snd v) + (1 : Int)))))
                        none))
                    none)
                  (some
                    (Sum.inl
                      ((Prod.fst (Prod.fst v), Prod.snd (Prod.fst v)), Prod.fst (Prod.snd v),
                        wr IntKind.i64 (Prod.snd (Prod.snd v) + (1 : Int)))))))
              (some (Sum.inr ((Prod.fst (Prod.fst v), Prod.snd (Prod.fst v)), Prod.fst (Prod.snd v))))))
          (some (Sum.inr ((Prod.fst (Prod.fst v), Prod.snd (Prod.fst v)), Prod.fst (Prod.snd v)))))
      (((0 : Int), (0 : Int)), [], (0 : Int)))
    fun (x : (Int × Int) × List Int) =>
    cnd (decide (↑(List.length (Prod.snd x)) = (3 : Int)))
      (cnd (decide ((0 : Int) ≤ (0 : Int)) && decide ((0 : Int) < ↑(List.length (Prod.snd x))))
        (cnd (decide (List.getD (Prod.snd x) (0 : Nat) (0 : Int) = (0 : Int)))
          (cnd (decide ((0 : Int) ≤ (1 : Int)) && decide ((1 : Int) < ↑(List.length (Prod.snd x))))
            (cnd (decide (List.getD (Prod.snd x) (1 : Nat) (0 : Int) = (2 : Int)))
              (cnd (decide ((0 : Int) ≤ (2 : Int)) && decide ((2 : Int) < ↑(List.length (Prod.snd x))))
                (cnd (decide (List.getD (Prod.snd x) (2 : Nat) (0 : Int) = (6 : Int)))
                  (cnd (decide (Prod.snd (Prod.fst x) = wr IntKind.i64 (wr IntKind.i64 now + (14 : Int))))
                    (cnd (decide (Prod.fst (Prod.fst x) = (0 : Int))) (some false)
                      (cnd (!decide (Prod.snd (Prod.fst x) ≤ wr IntKind.i64 (wr IntKind.i64 now + (13 : Int))))
                        (cnd (decide (Prod.fst (Prod.fst x) = (0 : Int))) (some true)
                          (some (decide (Prod.snd (Prod.fst x) ≤ wr IntKind.i64 (wr IntKind.i64 now + (14 : Int))))))
                        (some false)))
                    (some false))
                  (some false))
                none)
              (some false))
            none)
          (some false))
        none)
      (some false)

theorem F4_eq (N : Nat) (now : Int) : F4 N now = W4 N now := by kernel_rfl
theorem wr_i64 {z : Int} (h : -9223372036854775808 ≤ z) (h2 : z ≤ 9223372036854775807) : wr .i64 z = z := by
  have e1 : lo .i64 = -9223372036854775808 := by rfl
  have e2 : hi .i64 = 9223372036854775807 := by rfl
  unfold wr
  rw [if_pos ⟨by omega, by omega⟩]
theorem dT {p : Prop} [Decidable p] (h : p) : decide p = true := decide_eq_true h
theorem dF {p : Prop} [Decidable p] (h : ¬ p) : decide p = false := decide_eq_false h
theorem cnd_t {α : Type} {x y : α} : cnd true x y = x := rfl
theorem cnd_f {α : Type} {x y : α} : cnd false x y = y := rfl
theorem obind_some {α β : Type} {a : α} {f : α → Option β} : obind (some a) f = f a := rfl
theorem W4_true (now : Int) (h0 : 0 ≤ now) (h1 : now ≤ 65535) : W4 9 now = some true := by
  unfold W4
  simp (disch := omega) [loopN, wr_i64, dT, dF, cnd_t, cnd_f, obind_some, Int.min_def, Int.max_def]
  rfl

theorem own : ownKnob Try.prog.godebug = none := by kernel_rfl
theorem laidOut : laidOutB Try.prog = true := by kernel_rfl
theorem mixed : Try.prog.follows .mixedOrders = true := by decide +kernel
theorem progOk_ : progOk Try.prog = true := by decide +kernel
theorem noG_ok : GammaOk Try.prog noG.orc := fun f xs lb res lb' lf h => by simp [OrcT.orc, noG, Tr.run] at h
theorem code4 : codeOk (Try.f4.body.getD .skip) = true := by kernel_rfl

theorem spec4 (now : Int) (h0 : 0 ≤ now) (h1 : now ≤ 65535) : Go.Abs.Spec P0 4 [.int .u16 now] [] (.bs true) [] [] :=
  spec_evK (ts := [.bool]) (r := true) mixed (orcD_ok noG_ok mixed progOk_ 5) Try.func4 (fn := Try.f4) (c := Try.f4.body.getD .skip) (by kernel_rfl) code4 (by exact of_decide_eq_true (by kernel_rfl)) (by
    have := F4_eq 9 now
    rw [W4_true now h0 h1] at this
    exact this)

set_option maxRecDepth 100000 in
theorem lifted (os : Os) (started : os.Started) (H : Type) (enc : TypeId × Value → H) :
    ReturnsInHanded {} Try.checked os 4 .any (Rows.waitGapsSpec.pre6 enc Try.prog Try.f4 Rows.waitGapsRow.domain false) (Rows.waitGapsSpec.post enc Try.prog Try.f4 false true false false) := by
  refine returnsInHanded_of_change (C := Try.checked) own started (by kernel_rfl) Try.func4
    (ChangeSpec.witness6 (enc := enc) (C := Try.checked) false ⟨#[], #[.int .u16 0], []⟩ 8 (by kernel_rfl) (by kernel_rfl) (by kernel_rfl) (by kernel_rfl)) ?_
  intro W base args ds gs before hval0 hW hcnd _
  have hval : ∀ (j : Nat) t v, Try.f4.params[j]? = some t → args[j]? = some v → Value.okWide Try.prog W .any base t v := hval0
  have hW' := hW
  obtain ⟨p, q, hA0, hV, rfl, hfz, hnd⟩ := hW
  have hA : DataW.TrodAll enc Try.prog W 0 (fun _ => true) true Try.f4.params.toList args.toList ds p := hA0
  rw [Try.params4] at hA hval
  obtain ⟨v0, vs0, d0, ds0, p0, q0, hargs, rfl, rfl, h0, r0⟩ := trodAll_cons hA
  obtain ⟨rfl, rfl, rfl⟩ := trodAll_nil r0
  obtain rfl : args = #[v0] := by cases args; simp_all
  obtain ⟨rfl, rfl⟩ := trodVars_none hV
  have k0 := h0
  have lt0 : ∀ x ∈ p0, x.block < W.heap.size := by obtain ⟨m, hm⟩ := k0; exact DataW.trod_lt m _ _ _ hm
  obtain ⟨y0, rp0, wf0⟩ := arg_ok (n := 8) (ty := .int .u16) (by kernel_rfl) (hval 0 _ v0 rfl rfl) h0
  clear hA0 hval0
  refine (law_of (spec4 y0 wf0.1 wf0.2) W #[v0] (.cons rp0 .nil)).mono fun e W' ⟨he, bel⟩ => ?_
  subst he
  exact ⟨_, rfl, _, _, _, [], _, [], hW', trodAll_mk1 (shut_bool Try.underlying4 _), (trodAll_cons_mk (Below.trod laidOut (by kernel_rfl) (of_decide_eq_true (by kernel_rfl)) k0 bel lt0) trodAll_mk0), rfl, bel.frame _, fun h => by cases h⟩

theorem over : Rows.waitGapsRow.holds Try.pinned (OpenSpec.ofChange Rows.waitGapsSpec) :=
  OpenClaim.holds_of_wide 4 Try.f4 rfl rfl rfl rfl rfl rfl rfl ⟨rfl, rfl, rfl, rfl, rfl⟩ rfl rfl rfl rfl rfl (by kernel_rfl) Try.func4 (by kernel_rfl)
    (of_decide_eq_true (by kernel_rfl)) (by unfold Func.isWrapper; first | (rw [if_pos (by decide +kernel)]; kernel_rfl) | (rw [if_neg (by decide +kernel)]; exact ⟨rfl, rfl⟩))
    (fun os started H enc _ => lifted os started H enc)

theorem holds : Rows.WaitGapsSaid := over
end Go.Proofs.Ytelhmjkiajbobab.waitGapsX
