/- An operation under a guard that stands. No statement of the seat is proved here; no condition. -/
import Derived.Test.YtadlkecodlhaaaaLibB
set_option linter.unusedSimpArgs false
set_option linter.unusedVariables false
namespace Go.Baro
theorem wp_ungd {P : Program} {ops : Array Oper} {Q : Exit → Act → World → Prop} {rest : List Oper} {a : Act} {w : World} {o : Oper} (hw : Region.wanted o (yielded ops a.tmps) = true)
    (h : wpList P ops Q ({ o with guard := none } :: rest) a w) : wpList P ops Q (o :: rest) a w := by
  unfold wpList at h ⊢
  rw [if_pos (by simp [Region.wanted])] at h
  rw [if_pos hw]
  exact h
end Go.Baro
