/- Each number from 0 on, below 2^59, is the fold of exactly one number: the law's call returns true, and leaves what was there as it was. No condition. -/
import Derived.Test.YtjpdbcohkfchpaaZig1
import Derived.Test.YtjpdbcohkfchpaaKeepPicked
import Derived.Test.YtjpdbcohkfchpaaOpen
set_option linter.unusedSimpArgs false
set_option linter.unusedVariables false
namespace Go.Proofs.Ytjpdbcohkfchpaa
open Go.ChangeShapes Go.WideShapes Go.ChangeAt Go.RowKit Go.Ord Go.Baro

theorem zig_UnfoldO (n : Int) (w : World) (h : n < 0 ∨ 576460752303423488 ≤ n) (r0 : -9223372036854775808 ≤ n) (r1 : n ≤ 9223372036854775807) :
    Calls Try.prog 9 #[.int .i64 n] w fun e w' => e = .returned (.tuple #[.int .i64 0, .int .i64 11]) ∧ w = w' := by
  refine (zig_Unfold n w r0 r1).mono ?_
  rintro e w' ⟨rfl, rfl⟩
  have h1 := u_over h
  exact ⟨by rw [h1.1, h1.2], rfl⟩
theorem keep_Picked' (a n x : Int) (w : World) (hn : 0 < n) (hn1 : n ≤ 4611686018427387904) (h : x = a % n) :
    Calls Try.prog 12 #[.int .i64 a, .int .i64 n] w fun e w' => e = .returned (.int .i64 x) ∧ w = w' := by
  rw [h]
  exact keep_Picked a n w hn hn1

set_option maxHeartbeats 4000000 in
theorem walk_UnfoldBack (w : World) (a : Int) (ra : -9223372036854775808 ≤ a ∧ a ≤ 9223372036854775807) (b : Int) (rb : -9223372036854775808 ≤ b ∧ b ≤ 9223372036854775807) :
    Calls Try.prog 6 #[.int .i64 a, .int .i64 b] w fun e w' => e = .returned (.bool true) ∧ Below w.heap.size w w' := by
  obtain ⟨x, hx⟩ : ∃ x, x = a % 576460752303423488 := ⟨_, rfl⟩
  obtain ⟨y, hy⟩ : ∃ y, y = b % 576460752303423488 := ⟨_, rfl⟩
  have sx : 0 ≤ x ∧ x < 576460752303423488 := by omega
  have sy : 0 ≤ y ∧ y < 576460752303423488 := by omega
  have HX := Lib.hid hx
  have HY := Lib.hid hy
  clear hx hy ra rb
  go_enter Try.func6, Try.ntmps6
  go_wp2_with fail
  refine (keep_Picked' a _ x _ (by omega) (by omega) HX.out).mono ?_
  rintro e w' ⟨rfl, rfl⟩
  go_wp2_with fail
  refine (keep_Picked' b _ y _ (by omega) (by omega) HY.out).mono ?_
  rintro e w' ⟨rfl, rfl⟩
  clear HX HY
  go_wp2_with fail
  refine (zig_UnfoldS x _ sx).mono ?_
  rintro e w' ⟨⟨m, rfl, HM, m0, m1⟩, rfl⟩
  go_wp2_with fail
  refine (zig_UnfoldS y _ sy).mono ?_
  rintro e w' ⟨⟨n, rfl, HN, n0, n1⟩, rfl⟩
  go_wp2_with fail
  refine (zig_FoldS m _ ⟨m0, m1⟩).mono ?_
  rintro e w' ⟨⟨k, rfl, HK, k0, k1⟩, rfl⟩
  obtain rfl : k = x := by rw [HK.out, HM.out, zfold_unf sx.1]
  go_wp2_with fail
  refine (zig_UnfoldO (-1) _ (by decide) (by decide) (by decide)).mono ?_
  rintro e w' ⟨rfl, rfl⟩
  go_wp2_with fail
  refine (zig_UnfoldO 576460752303423488 _ (by decide) (by decide) (by decide)).mono ?_
  rintro e w' ⟨rfl, rfl⟩
  by_cases hxy : k = y
  · subst hxy
    obtain rfl : m = n := by rw [HM.out, HN.out]
    clear HK HM HN
    go_wp2
    go_ret
    exact ⟨rfl, Below.refl _ _⟩
  · have hmn : (m == n) = false := by
      have : ¬ m = n := fun h => hxy (by rw [← zfold_unf sx.1, ← zfold_unf sy.1, ← HM.out, ← HN.out, h])
      simp [this]
    have hky : (k == y) = false := by simp [hxy]
    clear HK HM HN hxy
    go_wp2
    go_ret
    exact ⟨rfl, Below.refl _ _⟩

theorem own_UnfoldBack : ownKnob Try.prog.godebug = none := by kernel_rfl
theorem laid_UnfoldBack : laidOutB Try.prog = true := by kernel_rfl
set_option maxRecDepth 100000 in
theorem lifted_UnfoldBack (os : Os) (started : os.Started) (H : Type) (enc : TypeId × Value → H) :
    ReturnsInHanded {} Try.checked os 6 .any (Rows.unfoldBackSpec.pre6 enc Try.prog Try.f6 Rows.unfoldBackRow.domain false) (Rows.unfoldBackSpec.post enc Try.prog Try.f6 false true false false) := by
  refine returnsInHanded_of_change_sized (C := Try.checked) own_UnfoldBack started (by kernel_rfl) Try.func6
    (ChangeSpec.witness6 (enc := enc) (C := Try.checked) false ⟨#[], #[.int .i64 0, .int .i64 0], []⟩ 8 (by kernel_rfl) (by kernel_rfl) (by kernel_rfl) (by kernel_rfl)) ?_
  intro W base args ds gs before hval0 hW hcnd hsz0 _
  have hsz : (DataW.weightsEach Try.prog (Try.f6.params.toList ++ Rows.unfoldBackSpec.plain.varTypes Try.prog) (ds ++ gs)).all (· ≤ reachBytes) = true := hsz0
  clear hsz0
  have hval : ∀ (j : Nat) t v, Try.f6.params[j]? = some t → args[j]? = some v → Value.okWide Try.prog W .any base t v := hval0
  have hW' := hW
  obtain ⟨p, q, hA0, hV, rfl, hfz, hnd⟩ := hW
  have hA : DataW.TrodAll enc Try.prog W 0 (fun _ => true) true Try.f6.params.toList args.toList ds p := hA0
  rw [Try.params6] at hA hval hsz
  obtain ⟨v0, vs0, d0, ds0, p0, q0, hargs, rfl, rfl, h0, r0⟩ := trodAll_cons hA
  obtain ⟨v1, vs1, d1, ds1, p1, q1, rfl, rfl, rfl, h1, r1⟩ := trodAll_cons r0
  obtain ⟨rfl, rfl, rfl⟩ := trodAll_nil r1
  obtain rfl : args = #[v0, v1] := by cases args; simp_all
  obtain ⟨rfl, rfl⟩ := trodVars_none hV
  have k0 := h0
  have lt0 : ∀ x ∈ p0, x.block < W.heap.size := by obtain ⟨m, hm⟩ := k0; exact DataW.trod_lt m _ _ _ hm
  obtain ⟨x0, rfl, rfl, rfl, wx0⟩ := open_int Try.underlying3 (hval 0 3 v0 rfl rfl) h0
  have rr0 := bounds_i64 wx0
  have k1 := h1
  have lt1 : ∀ x ∈ p1, x.block < W.heap.size := by obtain ⟨m, hm⟩ := k1; exact DataW.trod_lt m _ _ _ hm
  obtain ⟨x1, rfl, rfl, rfl, wx1⟩ := open_int Try.underlying3 (hval 1 3 v1 rfl rfl) h1
  have rr1 := bounds_i64 wx1
  clear hA0 hval0 hsz
  refine (walk_UnfoldBack W x0 rr0 x1 rr1).mono fun e W' ⟨he, bel⟩ => ?_
  subst he
  exact ⟨_, rfl, _, _, _, [], _, [], hW', trodAll_mk1 (shut_bool Try.underlying4 _), (trodAll_cons_mk (Below.trod laid_UnfoldBack (by kernel_rfl) (of_decide_eq_true (by kernel_rfl)) k0 bel lt0) (trodAll_cons_mk (Below.trod laid_UnfoldBack (by kernel_rfl) (of_decide_eq_true (by kernel_rfl)) k1 bel lt1) trodAll_mk0)), rfl, bel.frame _, fun h => by cases h⟩

theorem unfoldBack_holds : Rows.UnfoldBackSaid :=
  OpenClaim.holds_of_wide 6 Try.f6 rfl rfl rfl rfl rfl rfl rfl ⟨rfl, rfl, rfl, rfl, rfl⟩ rfl rfl rfl rfl rfl (by kernel_rfl) Try.func6 (by kernel_rfl)
    (of_decide_eq_true (by kernel_rfl)) (by unfold Func.isWrapper; first | (rw [if_pos (by decide +kernel)]; kernel_rfl) | (rw [if_neg (by decide +kernel)]; exact ⟨rfl, rfl⟩))
    (fun os started H enc _ => lifted_UnfoldBack os started H enc)
#print axioms unfoldBack_holds
end Go.Proofs.Ytjpdbcohkfchpaa
