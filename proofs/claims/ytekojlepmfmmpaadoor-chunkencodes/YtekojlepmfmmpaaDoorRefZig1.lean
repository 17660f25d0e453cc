/- What the document's answers to Fold and Unfold do. No statement of the seat is proved here; no condition. -/
import Derived.Test.YtekojlepmfmmpaaDoorRows
import Derived.Test.YtekojlepmfmmpaaDoorLib
import Derived.Test.YtekojlepmfmmpaaDoorZigPure
set_option linter.unusedSimpArgs false
set_option linter.unusedVariables false
namespace Go.Proofs.YtekojlepmfmmpaaDoor
open Go.RowKit Go.Ord Go.Baro

theorem ref_isSmall (n : Int) (r : Bool) (w : World) (hr : r = true ↔ -288230376151711744 ≤ n ∧ n < 288230376151711744) :
    Calls Tryd.prog 41 #[.int .i64 n] w fun e w' => e = .returned (.bool r) ∧ w = w' := by
  have H := Lib.hid hr
  clear hr
  by_cases h : -288230376151711744 ≤ n
  · go_enter Tryd.func41, Tryd.ntmps41
    go_wp2
    go_ret
    refine ⟨ret_bool ?_, rfl⟩
    have := H.out
    cases r <;> simp at this ⊢ <;> omega
  · go_enter Tryd.func41, Tryd.ntmps41
    go_wp2
    go_ret
    refine ⟨ret_bool ?_, rfl⟩
    have := H.out
    cases r <;> simp at this ⊢ <;> omega

theorem ref_ZigFold (n : Int) (w : World) (r0 : -9223372036854775808 ≤ n) (r1 : n ≤ 9223372036854775807) :
    Calls Tryd.prog 26 #[.int .i64 n] w fun e w' => e = .returned (.tuple #[.int .i64 (fR n), .int .i64 (fC n)]) ∧ w = w' := by
  by_cases h1 : n < -288230376151711744 ∨ 288230376151711744 ≤ n
  · have H := Lib.hid (f_over h1)
    go_enter Tryd.func26, Tryd.ntmps26
    go_wp2_with (go_at_call 41; refine (ref_isSmall _ false _ (by simp; omega)).mono ?_; rintro e w' ⟨rfl, rfl⟩)
    go_ret2
    exact ⟨ret_two (val_int H.out.1.symm) (val_int H.out.2.symm), rfl⟩
  have H := Lib.hid (f_in (n := n) ⟨by omega, by omega⟩)
  by_cases h3 : n < 0
  · have H' := Lib.hid (zfold_neg h3)
    go_enter Tryd.func26, Tryd.ntmps26
    go_wp2_with (go_at_call 41; refine (ref_isSmall _ true _ (by simp; omega)).mono ?_; rintro e w' ⟨rfl, rfl⟩)
    go_ret2
    exact ⟨ret_two (val_int (by rw [H.out.1, H'.out])) (val_int H.out.2.symm), rfl⟩
  · have H' := Lib.hid (zfold_pos h3)
    go_enter Tryd.func26, Tryd.ntmps26
    go_wp2_with (go_at_call 41; refine (ref_isSmall _ true _ (by simp; omega)).mono ?_; rintro e w' ⟨rfl, rfl⟩)
    go_ret2
    exact ⟨ret_two (val_int (by rw [H.out.1, H'.out])) (val_int H.out.2.symm), rfl⟩

theorem ref_ZigUnfold (n : Int) (w : World) (r0 : -9223372036854775808 ≤ n) (r1 : n ≤ 9223372036854775807) :
    Calls Tryd.prog 46 #[.int .i64 n] w fun e w' => e = .returned (.tuple #[.int .i64 (uR n), .int .i64 (uC n)]) ∧ w = w' := by
  by_cases h1 : n < 0
  · have H := Lib.hid (u_over (Or.inl h1))
    go_enter Tryd.func46, Tryd.ntmps46
    go_wp2
    go_ret2
    exact ⟨ret_two (val_int H.out.1.symm) (val_int H.out.2.symm), rfl⟩
  by_cases h2 : 576460752303423488 ≤ n
  · have H := Lib.hid (u_over (Or.inr h2))
    go_enter Tryd.func46, Tryd.ntmps46
    go_wp2
    go_ret2
    exact ⟨ret_two (val_int H.out.1.symm) (val_int H.out.2.symm), rfl⟩
  have H := Lib.hid (u_in (x := n) (by omega) (by omega))
  by_cases h3 : n % 2 = 1
  · have H' := Lib.hid (zunf_odd h3)
    go_enter Tryd.func46, Tryd.ntmps46
    go_wp2
    go_ret2
    exact ⟨ret_two (val_int (by rw [H.out.1, H'.out, Int.tdiv_eq_ediv_of_nonneg (by omega), IntWalk.wrap64_in _ ⟨by omega, by omega⟩])) (val_int H.out.2.symm), rfl⟩
  · have H' := Lib.hid (zunf_even h3)
    go_enter Tryd.func46, Tryd.ntmps46
    go_wp2
    go_ret2
    exact ⟨ret_two (val_int (by rw [H.out.1, H'.out])) (val_int H.out.2.symm), rfl⟩
end Go.Proofs.YtekojlepmfmmpaaDoor
