/- Six words, as they are made. No statement of the seat is proved here; no condition. -/
import Derived.Test.YtjihopbapnfppaaDoorKeepVm
set_option linter.unusedSimpArgs false
set_option linter.unusedVariables false
namespace Go.Proofs.YtjihopbapnfppaaDoor
open Go.RowKit Go.Ord Go.Baro

theorem made6 (f : Int → Int) (x : List Int) : (madeCells (Value.int .i64 0).cells (6 * 1)).toList = (wsJ f x 0).map (Value.int .i64) := by
  rw [madeCells_one _ rfl]; simp [wsJ]
theorem own_base {w : World} {b g : Nat} {e : TypeId} {n c m : Nat} {xs : List Value} (h : w.ownsRow b e 1 (.slice (some ⟨g, 0, none⟩) n c) m xs) : w.ownsRow g e 1 (.slice (some ⟨g, 0, none⟩) n c) m xs := by
  refine ⟨h.1, ?_⟩
  rcases h.2 with h | ⟨g', cap, cur, h1, h2, h3⟩
  · exact .inl h
  · refine .inr ⟨g', cap, cur, h1, ?_, h3⟩
    simp only [Value.slice.injEq, Option.some.injEq, Addr.mk.injEq, and_true] at h1
    omega
end Go.Proofs.YtjihopbapnfppaaDoor
