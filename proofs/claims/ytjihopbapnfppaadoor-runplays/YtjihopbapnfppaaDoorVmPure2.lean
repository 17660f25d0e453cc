/- The table of operands, and what it says of a code. No statement of the seat is proved here; no condition. -/
import Derived.Test.YtjihopbapnfppaaDoorVmPure
import Derived.Test.YtjihopbapnfppaaDoorDoorV
set_option linter.unusedSimpArgs false
set_option linter.unusedVariables false
namespace Go.Proofs.YtjihopbapnfppaaDoor
open Go.Baro

/-- A field that is possible as an operand of this sort. -/
def alw (o n : Int) (len : Nat) : Prop := if o = 1 then 0 ≤ n ∧ n < 24 else if o = 2 then 0 ≤ n ∧ n ≤ len else if o = 3 then True else n = 0
theorem okI_row {len k : Nat} {a b c d A B C D : Int} (hk : 1 ≤ k) (h : tabRows[k]? = some (a, b, c, d)) : okI len ⟨k, A, B, C, D⟩ ↔ alw a A len ∧ alw b B len ∧ alw c C len ∧ alw d D len := by
  have h18 : k < 18 := (List.getElem?_eq_some_iff.1 h).1
  rcases (by omega : k = 1 ∨ k = 2 ∨ k = 3 ∨ k = 4 ∨ k = 5 ∨ k = 6 ∨ k = 7 ∨ k = 8 ∨ k = 9 ∨ k = 10 ∨ k = 11 ∨ k = 12 ∨ k = 13 ∨ k = 14 ∨ k = 15 ∨ k = 16 ∨ k = 17) with rfl | rfl | rfl | rfl | rfl | rfl | rfl | rfl | rfl | rfl | rfl | rfl | rfl | rfl | rfl | rfl | rfl <;>
    (simp [tabRows] at h; obtain ⟨rfl, rfl, rfl, rfl⟩ := h; simp [okI, alw, isR, isT])
theorem row_small {k : Nat} {a b c d : Int} (h : tabRows[k]? = some (a, b, c, d)) : (0 ≤ a ∧ a ≤ 3) ∧ (0 ≤ b ∧ b ≤ 3) ∧ (0 ≤ c ∧ c ≤ 3) ∧ (0 ≤ d ∧ d ≤ 3) := by
  have hm := List.mem_of_getElem? h
  have : ∀ r ∈ tabRows, (0 ≤ r.1 ∧ r.1 ≤ 3) ∧ (0 ≤ r.2.1 ∧ r.2.1 ≤ 3) ∧ (0 ≤ r.2.2.1 ∧ r.2.2.1 ≤ 3) ∧ (0 ≤ r.2.2.2 ∧ r.2.2.2 ≤ 3) := by decide
  exact this _ hm
theorem row_at {k : Nat} (h : k < 18) : ∃ a b c d, tabRows[k]? = some (a, b, c, d) := by
  have : k < tabRows.length := h
  exact ⟨_, _, _, _, List.getElem?_eq_getElem this⟩
theorem okI_kind {len : Nat} {o : Ins} (h : okI len o) : 1 ≤ o.k ∧ o.k ≤ 17 := by unfold okI at h; omega
end Go.Proofs.YtjihopbapnfppaaDoor
