/- What Fold and Unfold do. No statement of the seat is proved here; no condition. -/
import Derived.Test.YtekojlepmfmmpaaDoorRows
import Derived.Test.YtekojlepmfmmpaaDoorLib
import Derived.Test.YtekojlepmfmmpaaDoorZigPure
set_option linter.unusedSimpArgs false
set_option linter.unusedVariables false
namespace Go.Proofs.YtekojlepmfmmpaaDoor
open Go.RowKit Go.Ord Go.Baro

theorem zig_Fold (n : Int) (w : World) (r0 : -9223372036854775808 ≤ n) (r1 : n ≤ 9223372036854775807) :
    Calls Tryd.prog 36 #[.int .i64 n] w fun e w' => e = .returned (.tuple #[.int .i64 (fR n), .int .i64 (fC n)]) ∧ w = w' := by
  by_cases h1 : n < -288230376151711744
  · have H := Lib.hid (f_over (Or.inl h1))
    go_enter Tryd.func36, Tryd.ntmps36
    go_wp2
    go_ret2
    exact ⟨ret_two (val_int H.out.1.symm) (val_int H.out.2.symm), rfl⟩
  by_cases h2 : 288230376151711744 ≤ n
  · have H := Lib.hid (f_over (Or.inr h2))
    go_enter Tryd.func36, Tryd.ntmps36
    go_wp2
    go_ret2
    exact ⟨ret_two (val_int H.out.1.symm) (val_int H.out.2.symm), rfl⟩
  have H := Lib.hid (f_in (n := n) ⟨by omega, by omega⟩)
  by_cases h3 : n < 0
  · have H' := Lib.hid (zfold_neg h3)
    go_enter Tryd.func36, Tryd.ntmps36
    go_wp2
    go_ret2
    exact ⟨ret_two (val_int (by rw [H.out.1, H'.out])) (val_int H.out.2.symm), rfl⟩
  · have H' := Lib.hid (zfold_pos h3)
    go_enter Tryd.func36, Tryd.ntmps36
    go_wp2
    go_ret2
    exact ⟨ret_two (val_int (by rw [H.out.1, H'.out])) (val_int H.out.2.symm), rfl⟩

theorem zig_Unfold (n : Int) (w : World) (r0 : -9223372036854775808 ≤ n) (r1 : n ≤ 9223372036854775807) :
    Calls Tryd.prog 56 #[.int .i64 n] w fun e w' => e = .returned (.tuple #[.int .i64 (uR n), .int .i64 (uC n)]) ∧ w = w' := by
  by_cases h1 : n < 0
  · have H := Lib.hid (u_over (Or.inl h1))
    go_enter Tryd.func56, Tryd.ntmps56
    go_wp2
    go_ret2
    exact ⟨ret_two (val_int H.out.1.symm) (val_int H.out.2.symm), rfl⟩
  by_cases h2 : 576460752303423488 ≤ n
  · have H := Lib.hid (u_over (Or.inr h2))
    go_enter Tryd.func56, Tryd.ntmps56
    go_wp2
    go_ret2
    exact ⟨ret_two (val_int H.out.1.symm) (val_int H.out.2.symm), rfl⟩
  have H := Lib.hid (u_in (x := n) (by omega) (by omega))
  by_cases h3 : n % 2 = 1
  · have H' := Lib.hid (zunf_odd h3)
    go_enter Tryd.func56, Tryd.ntmps56
    go_wp2
    go_ret2
    exact ⟨ret_two (val_int (by rw [H.out.1, H'.out, Int.tdiv_eq_ediv_of_nonneg (by omega), IntWalk.wrap64_in _ ⟨by omega, by omega⟩])) (val_int H.out.2.symm), rfl⟩
  · have H' := Lib.hid (zunf_even h3)
    go_enter Tryd.func56, Tryd.ntmps56
    go_wp2
    go_ret2
    exact ⟨ret_two (val_int (by rw [H.out.1, H'.out])) (val_int H.out.2.symm), rfl⟩
/-- What Fold answers a small number, said with a name. -/
theorem zig_FoldS (n : Int) (w : World) (h : -288230376151711744 ≤ n ∧ n < 288230376151711744) :
    Calls Tryd.prog 36 #[.int .i64 n] w fun e w' => (∃ f, e = .returned (.tuple #[.int .i64 f, .int .i64 0]) ∧ Hid (f = zfold n) ∧ 0 ≤ f ∧ f < 576460752303423488) ∧ w = w' := by
  refine (zig_Fold n w (by omega) (by omega)).mono ?_
  rintro e w' ⟨rfl, rfl⟩
  have h1 := f_in (n := n) h
  have h2 := zfold_range (n := n) h
  exact ⟨⟨zfold n, by rw [h1.1, h1.2], rfl, h2.1, h2.2⟩, rfl⟩
theorem zig_FoldO (n : Int) (w : World) (h : n < -288230376151711744 ∨ 288230376151711744 ≤ n) (r0 : -9223372036854775808 ≤ n) (r1 : n ≤ 9223372036854775807) :
    Calls Tryd.prog 36 #[.int .i64 n] w fun e w' => e = .returned (.tuple #[.int .i64 0, .int .i64 11]) ∧ w = w' := by
  refine (zig_Fold n w r0 r1).mono ?_
  rintro e w' ⟨rfl, rfl⟩
  have h1 := f_over h
  exact ⟨by rw [h1.1, h1.2], rfl⟩
theorem zig_UnfoldS (n : Int) (w : World) (h : 0 ≤ n ∧ n < 576460752303423488) :
    Calls Tryd.prog 56 #[.int .i64 n] w fun e w' => (∃ f, e = .returned (.tuple #[.int .i64 f, .int .i64 0]) ∧ Hid (f = zunf n) ∧ -288230376151711744 ≤ f ∧ f < 288230376151711744) ∧ w = w' := by
  refine (zig_Unfold n w (by omega) (by omega)).mono ?_
  rintro e w' ⟨rfl, rfl⟩
  have h1 := u_in h.1 h.2
  have h2 := zunf_small h.1 h.2
  exact ⟨⟨zunf n, by rw [h1.1, h1.2], rfl, h2.1, h2.2⟩, rfl⟩
end Go.Proofs.YtekojlepmfmmpaaDoor
