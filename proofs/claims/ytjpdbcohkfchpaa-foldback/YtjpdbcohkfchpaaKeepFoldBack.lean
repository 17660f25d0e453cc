/- Unfold brings back what Fold made of a small number, and the nearer to 0, the less the fold: the law's call returns true, and leaves what was there as it was. No condition. -/
import Derived.Test.YtjpdbcohkfchpaaZig1
import Derived.Test.YtjpdbcohkfchpaaKeepSmall
import Derived.Test.YtjpdbcohkfchpaaOpen
set_option linter.unusedSimpArgs false
set_option linter.unusedVariables false
namespace Go.Proofs.Ytjpdbcohkfchpaa
open Go.ChangeShapes Go.WideShapes Go.ChangeAt Go.RowKit Go.Ord Go.Baro

theorem fold_near {x y : Int} (p q : Int) (hp : p = if x < 0 then -x else x) (hq : q = if y < 0 then -y else y) (h : p < q) : zfold x < zfold y := by
  unfold zfold
  split at hp <;> split at hq <;> rename_i h1 h2 <;> simp [h1, h2] <;> omega

set_option maxHeartbeats 4000000 in
theorem walk_FoldBack (w : World) (a : Int) (ra : -9223372036854775808 ≤ a ∧ a ≤ 9223372036854775807) (b : Int) (rb : -9223372036854775808 ≤ b ∧ b ≤ 9223372036854775807) :
    Calls Try.prog 5 #[.int .i64 a, .int .i64 b] w fun e w' => e = .returned (.bool true) ∧ Below w.heap.size w w' := by
  obtain ⟨x, hx⟩ : ∃ x, x = a / 32 := ⟨_, rfl⟩
  obtain ⟨y, hy⟩ : ∃ y, y = b / 32 := ⟨_, rfl⟩
  have sx : -288230376151711744 ≤ x ∧ x < 288230376151711744 := by omega
  have sy : -288230376151711744 ≤ y ∧ y < 288230376151711744 := by omega
  have HX := Lib.hid hx
  have HY := Lib.hid hy
  clear hx hy ra rb
  by_cases hxy : x = y
  · subst hxy
    rcases (by omega : x < 0 ∨ ¬ x < 0) with cx | cx
    · go_enter Try.func5, Try.ntmps5
      go_wp2_with fail
      refine (keep_Small a x _ HX.out).mono ?_
      rintro e w' ⟨rfl, rfl⟩
      go_wp2_with fail
      refine (keep_Small b x _ HY.out).mono ?_
      rintro e w' ⟨rfl, rfl⟩
      clear HX HY
      go_wp2_with fail
      refine (zig_FoldS x _ sx).mono ?_
      rintro e w' ⟨⟨f, rfl, HF, f0, f1⟩, rfl⟩
      go_wp2_with fail
      refine (zig_FoldS x _ sy).mono ?_
      rintro e w' ⟨⟨g, rfl, HG, g0, g1⟩, rfl⟩
      go_wp2_with fail
      refine (zig_UnfoldS f _ ⟨f0, f1⟩).mono ?_
      rintro e w' ⟨⟨k, rfl, HK, k0, k1⟩, rfl⟩
      obtain rfl : k = x := by rw [HK.out, HF.out, zunf_fold]
      go_wp2_with fail
      refine (zig_FoldS (-1) _ (by decide)).mono ?_
      rintro e w' ⟨⟨o, rfl, HO, _, _⟩, rfl⟩
      obtain rfl : o = 1 := by rw [HO.out]; decide
      clear HK HO
      obtain rfl : f = g := by rw [HF.out, HG.out]
      clear HF HG
      go_wp2
      go_ret
      exact ⟨rfl, Below.refl _ _⟩
    · go_enter Try.func5, Try.ntmps5
      go_wp2_with fail
      refine (keep_Small a x _ HX.out).mono ?_
      rintro e w' ⟨rfl, rfl⟩
      go_wp2_with fail
      refine (keep_Small b x _ HY.out).mono ?_
      rintro e w' ⟨rfl, rfl⟩
      clear HX HY
      go_wp2_with fail
      refine (zig_FoldS x _ sx).mono ?_
      rintro e w' ⟨⟨f, rfl, HF, f0, f1⟩, rfl⟩
      go_wp2_with fail
      refine (zig_FoldS x _ sy).mono ?_
      rintro e w' ⟨⟨g, rfl, HG, g0, g1⟩, rfl⟩
      go_wp2_with fail
      refine (zig_UnfoldS f _ ⟨f0, f1⟩).mono ?_
      rintro e w' ⟨⟨k, rfl, HK, k0, k1⟩, rfl⟩
      obtain rfl : k = x := by rw [HK.out, HF.out, zunf_fold]
      go_wp2_with fail
      refine (zig_FoldS (-1) _ (by decide)).mono ?_
      rintro e w' ⟨⟨o, rfl, HO, _, _⟩, rfl⟩
      obtain rfl : o = 1 := by rw [HO.out]; decide
      clear HK HO
      obtain rfl : f = g := by rw [HF.out, HG.out]
      clear HF HG
      go_wp2
      go_ret
      exact ⟨rfl, Below.refl _ _⟩
  · rcases (by omega : x < 0 ∨ ¬ x < 0) with cx | cx <;> rcases (by omega : y < 0 ∨ ¬ y < 0) with cy | cy
    · go_enter Try.func5, Try.ntmps5
      go_wp2_with fail
      refine (keep_Small a x _ HX.out).mono ?_
      rintro e w' ⟨rfl, rfl⟩
      go_wp2_with fail
      refine (keep_Small b y _ HY.out).mono ?_
      rintro e w' ⟨rfl, rfl⟩
      clear HX HY
      go_wp2_with fail
      refine (zig_FoldS x _ sx).mono ?_
      rintro e w' ⟨⟨f, rfl, HF, f0, f1⟩, rfl⟩
      go_wp2_with fail
      refine (zig_FoldS y _ sy).mono ?_
      rintro e w' ⟨⟨g, rfl, HG, g0, g1⟩, rfl⟩
      go_wp2_with fail
      refine (zig_UnfoldS f _ ⟨f0, f1⟩).mono ?_
      rintro e w' ⟨⟨k, rfl, HK, k0, k1⟩, rfl⟩
      obtain rfl : k = x := by rw [HK.out, HF.out, zunf_fold]
      go_wp2_with fail
      refine (zig_FoldS (-1) _ (by decide)).mono ?_
      rintro e w' ⟨⟨o, rfl, HO, _, _⟩, rfl⟩
      obtain rfl : o = 1 := by rw [HO.out]; decide
      clear HK HO
      have hfg : (f == g) = false := by
        have : ¬ f = g := fun h => hxy (zfold_inj (by rw [← HF.out, ← HG.out, h]))
        simp [this]
      have hky : (k == y) = false := by simp [hxy]
      have HN := Lib.hid (show (-k) < (-y) → f < g from fun h => by rw [HF.out, HG.out]; exact fold_near (-k) (-y) (by split <;> omega) (by split <;> omega) h)
      clear HF HG hxy
      by_cases hc : (-k) < (-y)
      · have hlt := HN.out hc
        go_wp2
        go_ret
        exact ⟨rfl, Below.refl _ _⟩
      · go_wp2
        go_ret
        exact ⟨rfl, Below.refl _ _⟩
    · go_enter Try.func5, Try.ntmps5
      go_wp2_with fail
      refine (keep_Small a x _ HX.out).mono ?_
      rintro e w' ⟨rfl, rfl⟩
      go_wp2_with fail
      refine (keep_Small b y _ HY.out).mono ?_
      rintro e w' ⟨rfl, rfl⟩
      clear HX HY
      go_wp2_with fail
      refine (zig_FoldS x _ sx).mono ?_
      rintro e w' ⟨⟨f, rfl, HF, f0, f1⟩, rfl⟩
      go_wp2_with fail
      refine (zig_FoldS y _ sy).mono ?_
      rintro e w' ⟨⟨g, rfl, HG, g0, g1⟩, rfl⟩
      go_wp2_with fail
      refine (zig_UnfoldS f _ ⟨f0, f1⟩).mono ?_
      rintro e w' ⟨⟨k, rfl, HK, k0, k1⟩, rfl⟩
      obtain rfl : k = x := by rw [HK.out, HF.out, zunf_fold]
      go_wp2_with fail
      refine (zig_FoldS (-1) _ (by decide)).mono ?_
      rintro e w' ⟨⟨o, rfl, HO, _, _⟩, rfl⟩
      obtain rfl : o = 1 := by rw [HO.out]; decide
      clear HK HO
      have hfg : (f == g) = false := by
        have : ¬ f = g := fun h => hxy (zfold_inj (by rw [← HF.out, ← HG.out, h]))
        simp [this]
      have hky : (k == y) = false := by simp [hxy]
      have HN := Lib.hid (show (-k) < y → f < g from fun h => by rw [HF.out, HG.out]; exact fold_near (-k) y (by split <;> omega) (by split <;> omega) h)
      clear HF HG hxy
      by_cases hc : (-k) < y
      · have hlt := HN.out hc
        go_wp2
        go_ret
        exact ⟨rfl, Below.refl _ _⟩
      · go_wp2
        go_ret
        exact ⟨rfl, Below.refl _ _⟩
    · go_enter Try.func5, Try.ntmps5
      go_wp2_with fail
      refine (keep_Small a x _ HX.out).mono ?_
      rintro e w' ⟨rfl, rfl⟩
      go_wp2_with fail
      refine (keep_Small b y _ HY.out).mono ?_
      rintro e w' ⟨rfl, rfl⟩
      clear HX HY
      go_wp2_with fail
      refine (zig_FoldS x _ sx).mono ?_
      rintro e w' ⟨⟨f, rfl, HF, f0, f1⟩, rfl⟩
      go_wp2_with fail
      refine (zig_FoldS y _ sy).mono ?_
      rintro e w' ⟨⟨g, rfl, HG, g0, g1⟩, rfl⟩
      go_wp2_with fail
      refine (zig_UnfoldS f _ ⟨f0, f1⟩).mono ?_
      rintro e w' ⟨⟨k, rfl, HK, k0, k1⟩, rfl⟩
      obtain rfl : k = x := by rw [HK.out, HF.out, zunf_fold]
      go_wp2_with fail
      refine (zig_FoldS (-1) _ (by decide)).mono ?_
      rintro e w' ⟨⟨o, rfl, HO, _, _⟩, rfl⟩
      obtain rfl : o = 1 := by rw [HO.out]; decide
      clear HK HO
      have hfg : (f == g) = false := by
        have : ¬ f = g := fun h => hxy (zfold_inj (by rw [← HF.out, ← HG.out, h]))
        simp [this]
      have hky : (k == y) = false := by simp [hxy]
      have HN := Lib.hid (show k < (-y) → f < g from fun h => by rw [HF.out, HG.out]; exact fold_near k (-y) (by split <;> omega) (by split <;> omega) h)
      clear HF HG hxy
      by_cases hc : k < (-y)
      · have hlt := HN.out hc
        go_wp2
        go_ret
        exact ⟨rfl, Below.refl _ _⟩
      · go_wp2
        go_ret
        exact ⟨rfl, Below.refl _ _⟩
    · go_enter Try.func5, Try.ntmps5
      go_wp2_with fail
      refine (keep_Small a x _ HX.out).mono ?_
      rintro e w' ⟨rfl, rfl⟩
      go_wp2_with fail
      refine (keep_Small b y _ HY.out).mono ?_
      rintro e w' ⟨rfl, rfl⟩
      clear HX HY
      go_wp2_with fail
      refine (zig_FoldS x _ sx).mono ?_
      rintro e w' ⟨⟨f, rfl, HF, f0, f1⟩, rfl⟩
      go_wp2_with fail
      refine (zig_FoldS y _ sy).mono ?_
      rintro e w' ⟨⟨g, rfl, HG, g0, g1⟩, rfl⟩
      go_wp2_with fail
      refine (zig_UnfoldS f _ ⟨f0, f1⟩).mono ?_
      rintro e w' ⟨⟨k, rfl, HK, k0, k1⟩, rfl⟩
      obtain rfl : k = x := by rw [HK.out, HF.out, zunf_fold]
      go_wp2_with fail
      refine (zig_FoldS (-1) _ (by decide)).mono ?_
      rintro e w' ⟨⟨o, rfl, HO, _, _⟩, rfl⟩
      obtain rfl : o = 1 := by rw [HO.out]; decide
      clear HK HO
      have hfg : (f == g) = false := by
        have : ¬ f = g := fun h => hxy (zfold_inj (by rw [← HF.out, ← HG.out, h]))
        simp [this]
      have hky : (k == y) = false := by simp [hxy]
      have HN := Lib.hid (show k < y → f < g from fun h => by rw [HF.out, HG.out]; exact fold_near k y (by split <;> omega) (by split <;> omega) h)
      clear HF HG hxy
      by_cases hc : k < y
      · have hlt := HN.out hc
        go_wp2
        go_ret
        exact ⟨rfl, Below.refl _ _⟩
      · go_wp2
        go_ret
        exact ⟨rfl, Below.refl _ _⟩

theorem own_FoldBack : ownKnob Try.prog.godebug = none := by kernel_rfl
theorem laid_FoldBack : laidOutB Try.prog = true := by kernel_rfl
set_option maxRecDepth 100000 in
theorem lifted_FoldBack (os : Os) (started : os.Started) (H : Type) (enc : TypeId × Value → H) :
    ReturnsInHanded {} Try.checked os 5 .any (Rows.foldBackSpec.pre6 enc Try.prog Try.f5 Rows.foldBackRow.domain false) (Rows.foldBackSpec.post enc Try.prog Try.f5 false true false false) := by
  refine returnsInHanded_of_change_sized (C := Try.checked) own_FoldBack started (by kernel_rfl) Try.func5
    (ChangeSpec.witness6 (enc := enc) (C := Try.checked) false ⟨#[], #[.int .i64 0, .int .i64 0], []⟩ 8 (by kernel_rfl) (by kernel_rfl) (by kernel_rfl) (by kernel_rfl)) ?_
  intro W base args ds gs before hval0 hW hcnd hsz0 _
  have hsz : (DataW.weightsEach Try.prog (Try.f5.params.toList ++ Rows.foldBackSpec.plain.varTypes Try.prog) (ds ++ gs)).all (· ≤ reachBytes) = true := hsz0
  clear hsz0
  have hval : ∀ (j : Nat) t v, Try.f5.params[j]? = some t → args[j]? = some v → Value.okWide Try.prog W .any base t v := hval0
  have hW' := hW
  obtain ⟨p, q, hA0, hV, rfl, hfz, hnd⟩ := hW
  have hA : DataW.TrodAll enc Try.prog W 0 (fun _ => true) true Try.f5.params.toList args.toList ds p := hA0
  rw [Try.params5] at hA hval hsz
  obtain ⟨v0, vs0, d0, ds0, p0, q0, hargs, rfl, rfl, h0, r0⟩ := trodAll_cons hA
  obtain ⟨v1, vs1, d1, ds1, p1, q1, rfl, rfl, rfl, h1, r1⟩ := trodAll_cons r0
  obtain ⟨rfl, rfl, rfl⟩ := trodAll_nil r1
  obtain rfl : args = #[v0, v1] := by cases args; simp_all
  obtain ⟨rfl, rfl⟩ := trodVars_none hV
  have k0 := h0
  have lt0 : ∀ x ∈ p0, x.block < W.heap.size := by obtain ⟨m, hm⟩ := k0; exact DataW.trod_lt m _ _ _ hm
  obtain ⟨x0, rfl, rfl, rfl, wx0⟩ := open_int Try.underlying3 (hval 0 3 v0 rfl rfl) h0
  have rr0 := bounds_i64 wx0
  have k1 := h1
  have lt1 : ∀ x ∈ p1, x.block < W.heap.size := by obtain ⟨m, hm⟩ := k1; exact DataW.trod_lt m _ _ _ hm
  obtain ⟨x1, rfl, rfl, rfl, wx1⟩ := open_int Try.underlying3 (hval 1 3 v1 rfl rfl) h1
  have rr1 := bounds_i64 wx1
  clear hA0 hval0 hsz
  refine (walk_FoldBack W x0 rr0 x1 rr1).mono fun e W' ⟨he, bel⟩ => ?_
  subst he
  exact ⟨_, rfl, _, _, _, [], _, [], hW', trodAll_mk1 (shut_bool Try.underlying4 _), (trodAll_cons_mk (Below.trod laid_FoldBack (by kernel_rfl) (of_decide_eq_true (by kernel_rfl)) k0 bel lt0) (trodAll_cons_mk (Below.trod laid_FoldBack (by kernel_rfl) (of_decide_eq_true (by kernel_rfl)) k1 bel lt1) trodAll_mk0)), rfl, bel.frame _, fun h => by cases h⟩

theorem foldBack_holds : Rows.FoldBackSaid :=
  OpenClaim.holds_of_wide 5 Try.f5 rfl rfl rfl rfl rfl rfl rfl ⟨rfl, rfl, rfl, rfl, rfl⟩ rfl rfl rfl rfl rfl (by kernel_rfl) Try.func5 (by kernel_rfl)
    (of_decide_eq_true (by kernel_rfl)) (by unfold Func.isWrapper; first | (rw [if_pos (by decide +kernel)]; kernel_rfl) | (rw [if_neg (by decide +kernel)]; exact ⟨rfl, rfl⟩))
    (fun os started H enc _ => lifted_FoldBack os started H enc)
#print axioms foldBack_holds
end Go.Proofs.Ytjpdbcohkfchpaa
