/- What the functions of package bits do. No statement of the seat is proved here; no condition. -/
import Derived.Test.YtnpabbinckcbaaaDoorRows
import Derived.Test.YtnpabbinckcbaaaDoorLib
import Derived.Test.YtnpabbinckcbaaaDoorBitsPure
set_option linter.unusedSimpArgs false
set_option linter.unusedVariables false
namespace Go.Proofs.YtnpabbinckcbaaaDoor
open Go.RowKit Go.Ord Go.Baro

theorem bits_shiftOf (a : Int) (w : World) (h0 : 0 ≤ a) :
    Calls Tryd.prog 40 #[.int .i64 a] w fun e w' => e = .returned (.int .i64 (7 - a % 8)) ∧ w = w' := by
  go_enter Tryd.func40, Tryd.ntmps40
  go_wp2
  go_ret
  exact ⟨rfl, rfl⟩

theorem bits_isWidth (a : Int) (r : Bool) (w : World) (hr : r = true ↔ 0 ≤ a ∧ a ≤ 60) :
    Calls Tryd.prog 38 #[.int .i64 a] w fun e w' => e = .returned (.bool r) ∧ w = w' := by
  have H := Lib.hid hr
  clear hr
  by_cases h : 0 ≤ a
  · go_enter Tryd.func38, Tryd.ntmps38
    go_wp2
    go_ret
    refine ⟨ret_bool ?_, rfl⟩
    have := H.out
    cases r <;> simp at this ⊢ <;> omega
  · go_enter Tryd.func38, Tryd.ntmps38
    go_wp2
    go_ret
    refine ⟨ret_bool ?_, rfl⟩
    have := H.out
    cases r <;> simp at this ⊢ <;> omega

theorem eltInt : Elt Tryd.prog 48 3 (.int .i64 0) 1 8 := Elt.mk' Tryd.underlying48 (by kernel_rfl) rfl (by decide)
theorem eltByte : Elt Tryd.prog 42 5 (.int .u8 0) 1 1 := Elt.mk' Tryd.underlying42 (by kernel_rfl) rfl (by decide)

/-- What Read leaves. -/
def ReadPost (l ws : List Int) (w : World) (e : Ending) (w' : World) : Prop :=
  ∃ v, e = .returned (.tuple #[v, .int .i64 (rdSum l ws), .int .i64 (rdCode l.length ws)]) ∧
    w'.ownsRow w.heap.size 3 1 v (rdVals l ws).length ((rdVals l ws).map (Value.int .i64)) ∧ Below w.heap.size w w'

theorem made_ints (n : Nat) : (madeCells (Value.int .i64 0).cells (n * 1)).toList = (fillTo [] n).map (Value.int .i64) := by
  rw [madeCells_one _ rfl]; simp [fillTo]

end Go.Proofs.YtnpabbinckcbaaaDoor
