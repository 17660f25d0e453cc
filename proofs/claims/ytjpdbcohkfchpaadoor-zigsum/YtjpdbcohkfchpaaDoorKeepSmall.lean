/- A small number, out of whatever number. No statement of the seat is proved here; no condition. -/
import Derived.Test.YtjpdbcohkfchpaaDoorRows
import Derived.Test.YtjpdbcohkfchpaaDoorLib
set_option linter.unusedSimpArgs false
set_option linter.unusedVariables false
namespace Go.Proofs.YtjpdbcohkfchpaaDoor
open Go.RowKit Go.Ord Go.Baro

theorem keep_Small (a x : Int) (w : World) (h : x = a / 32) :
    Calls Tryd.prog 16 #[.int .i64 a] w fun e w' => e = .returned (.int .i64 x) ∧ w = w' := by
  have H := Lib.hid h
  clear h
  go_enter Tryd.func16, Tryd.ntmps16
  go_wp2
  go_ret
  exact ⟨ret_int H.out.symm, rfl⟩
end Go.Proofs.YtjpdbcohkfchpaaDoor
