/- What Fold and Unfold do. No statement of the seat is proved here; no condition. -/
import Derived.Test.YtnpabbinckcbaaaDoorRows
import Derived.Test.YtnpabbinckcbaaaDoorLib
import Derived.Test.YtnpabbinckcbaaaDoorZigPure
set_option linter.unusedSimpArgs false
set_option linter.unusedVariables false
namespace Go.Proofs.YtnpabbinckcbaaaDoor
open Go.RowKit Go.Ord Go.Baro

theorem zig_Fold (n : Int) (w : World) (r0 : -9223372036854775808 ≤ n) (r1 : n ≤ 9223372036854775807) :
    Calls Tryd.prog 31 #[.int .i64 n] w fun e w' => e = .returned (.tuple #[.int .i64 (fR n), .int .i64 (fC n)]) ∧ w = w' := by
  by_cases h1 : n < -288230376151711744
  · have H := Lib.hid (f_over (Or.inl h1))
    go_enter Tryd.func31, Tryd.ntmps31
    go_wp2
    go_ret2
    exact ⟨ret_two (val_int H.out.1.symm) (val_int H.out.2.symm), rfl⟩
  by_cases h2 : 288230376151711744 ≤ n
  · have H := Lib.hid (f_over (Or.inr h2))
    go_enter Tryd.func31, Tryd.ntmps31
    go_wp2
    go_ret2
    exact ⟨ret_two (val_int H.out.1.symm) (val_int H.out.2.symm), rfl⟩
  have H := Lib.hid (f_in (n := n) ⟨by omega, by omega⟩)
  by_cases h3 : n < 0
  · have H' := Lib.hid (zfold_neg h3)
    go_enter Tryd.func31, Tryd.ntmps31
    go_wp2
    go_ret2
    exact ⟨ret_two (val_int (by rw [H.out.1, H'.out])) (val_int H.out.2.symm), rfl⟩
  · have H' := Lib.hid (zfold_pos h3)
    go_enter Tryd.func31, Tryd.ntmps31
    go_wp2
    go_ret2
    exact ⟨ret_two (val_int (by rw [H.out.1, H'.out])) (val_int H.out.2.symm), rfl⟩

/-- What Fold answers a small number, said with a name. -/
theorem zig_FoldS (n : Int) (w : World) (h : -288230376151711744 ≤ n ∧ n < 288230376151711744) :
    Calls Tryd.prog 31 #[.int .i64 n] w fun e w' => (∃ f, e = .returned (.tuple #[.int .i64 f, .int .i64 0]) ∧ Hid (f = zfold n) ∧ 0 ≤ f ∧ f < 576460752303423488) ∧ w = w' := by
  refine (zig_Fold n w (by omega) (by omega)).mono ?_
  rintro e w' ⟨rfl, rfl⟩
  have h1 := f_in (n := n) h
  have h2 := zfold_range (n := n) h
  exact ⟨⟨zfold n, by rw [h1.1, h1.2], rfl, h2.1, h2.2⟩, rfl⟩
theorem zig_FoldO (n : Int) (w : World) (h : n < -288230376151711744 ∨ 288230376151711744 ≤ n) (r0 : -9223372036854775808 ≤ n) (r1 : n ≤ 9223372036854775807) :
    Calls Tryd.prog 31 #[.int .i64 n] w fun e w' => e = .returned (.tuple #[.int .i64 0, .int .i64 11]) ∧ w = w' := by
  refine (zig_Fold n w r0 r1).mono ?_
  rintro e w' ⟨rfl, rfl⟩
  have h1 := f_over h
  exact ⟨by rw [h1.1, h1.2], rfl⟩
end Go.Proofs.YtnpabbinckcbaaaDoor
