/- A small number, out of whatever number. No statement of the seat is proved here; no condition. -/
import Derived.Test.YtjpdbcohkfchpaaRows
import Derived.Test.YtjpdbcohkfchpaaLib
set_option linter.unusedSimpArgs false
set_option linter.unusedVariables false
namespace Go.Proofs.Ytjpdbcohkfchpaa
open Go.RowKit Go.Ord Go.Baro

theorem keep_Small (a x : Int) (w : World) (h : x = a / 32) :
    Calls Try.prog 11 #[.int .i64 a] w fun e w' => e = .returned (.int .i64 x) ∧ w = w' := by
  have H := Lib.hid h
  clear h
  go_enter Try.func11, Try.ntmps11
  go_wp2
  go_ret
  exact ⟨ret_int H.out.symm, rfl⟩
end Go.Proofs.Ytjpdbcohkfchpaa
