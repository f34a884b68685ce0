/- More operations on rows of which all is known: cut to a bound, cleared, written over at their ends. -/
import Derived.Test.YthpfomhimmppiaaExtX
import Derived.Test.YthpfomhimmppiaaAbsY
namespace Go.Abs
open Go.RowKit
set_option linter.unusedVariables false
set_option linter.unusedSimpArgs false
section
variable {κ : Cx} {ι : Nat → Nat} {st : St} {a : Act} {w : World}
end
end Go.Abs
namespace Go.Abs
open Go.RowKit
set_option linter.unusedVariables false
set_option linter.unusedSimpArgs false
section
variable {κ : Cx} {ι : Nat → Nat} {st : St} {a : Act} {w : World}
end
end Go.Abs
namespace Go.Abs
open Go.RowKit
set_option linter.unusedVariables false
set_option linter.unusedSimpArgs false
section
variable {κ : Cx} {ι : Nat → Nat} {st : St} {a : Act} {w : World}
end
section
variable {κ : Cx}
end
end Go.Abs
namespace Go.Abs
open Go.RowKit
set_option linter.unusedVariables false
set_option linter.unusedSimpArgs false
noncomputable section
section
variable {κ : Cx} {ι : Nat → Nat} {st st' : St} {a : Act} {w : World}
theorem RelI.congr (h : RelI κ ι st a w) (hn : st'.n = st.n) (hg : st'.g = st.g) (ht : ∀ t, st'.get t = st.get t) (ho : ∀ s, st'.o.get s = st.o.get s) : RelI κ ι st' a w := by
  have hl : ∀ t, st'.o.live t ↔ st.o.live t := fun t => by simp only [Tab.live, ho]
  have hS : Stable κ.D st'.o ι w = Stable κ.D st.o ι w := by
    funext p
    simp only [Stable, hl, ho]
  have H : Goes κ.D st.o ι w st'.o ι w := by
    refine ⟨fun p hp => ⟨hS ▸ hp, rfl⟩, fun t => by rw [ho]; exact Nat.le_refl _, fun t hlt _ => ⟨(hl t).1 hlt, rfl⟩, fun t g ty sz fz cs e _ => ?_, fun t g ty fz nl L e _ => ?_⟩
    · rw [ho] at e
      exact ⟨⟨_, _, _, e⟩, fun arr ty1 fz1 hh => ⟨arr, ty1, fz1, hh, rfl⟩⟩
    · rw [ho] at e
      exact ⟨⟨_, _, _, _, e, rfl, rfl, rfl⟩, fun _ arr ty1 fz1 hh => ⟨arr, ty1, fz1, hh, rfl⟩⟩
  refine ⟨h.dfr, by rw [hn]; exact h.sz, fun t => by rw [ht]; exact (h.tm t).mono H, ⟨fun t => ?_, fun t u h1 h2 => h.tr.inj t u ((hl t).1 h1) ((hl u).1 h2), fun t h1 => h.tr.lt t ((hl t).1 h1)⟩,
    fun t h1 => h.my t ((hl t).1 h1), h.kept, fun t b hp h0 h1 => h.pin t b hp (by rw [ho] at h0; exact h0) ((hl t).1 h1), by rw [hg]; exact h.gh.mono fun d u hd => hd.mono H⟩
  rw [ho]
  exact (h.tr.ob t).mono H rfl
theorem Rel.congr (h : Rel κ st a w) (hn : st'.n = st.n) (hg : st'.g = st.g) (ht : ∀ t, st'.get t = st.get t) (ho : ∀ s, st'.o.get s = st.o.get s) : Rel κ st' a w := by
  obtain ⟨ι, h⟩ := h
  exact ⟨ι, h.congr hn hg ht ho⟩
end
section
variable {α : Type _} {β : Type _} {γ : Type _}
end
mutual
end
section
variable {β : Type _}
end
section
variable {β : Type _}
end
end
end Go.Abs
namespace Go.Abs
open Go.RowKit
set_option linter.unusedVariables false
set_option linter.unusedSimpArgs false
noncomputable section
section
variable {β : Type _}
end
end
end Go.Abs
namespace Go.Abs
open Go.RowKit
set_option linter.unusedVariables false
set_option linter.unusedSimpArgs false
noncomputable section
end
end Go.Abs
