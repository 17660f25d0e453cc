/- roll.Join answers what the document says: the law's call returns true, for every input. No condition. -/
import Derived.Test.YtnpabbinckcbaaaRefRollJoin
import Derived.Test.YtnpabbinckcbaaaOpenRoll
set_option linter.unusedSimpArgs false
set_option linter.unusedVariables false
namespace Go.Proofs.Ytnpabbinckcbaaa
open Go.ChangeShapes Go.WideShapes Go.ChangeAt Go.RowKit Go.Ord Go.Baro

set_option maxHeartbeats 1000000 in
theorem law_RollJoins (w : World) (x0 : Rl) (r0 : rlR x0) (x1 : Rl) (r1 : rlR x1) :
    Calls Try.prog 3 #[rlV x0, rlV x1] w fun e w' => e = .returned (.bool true) ∧ Below w.heap.size w w' := by
  have h0 : Below w.heap.size w w := Below.refl _ _
  obtain ⟨ac, al, ah, az⟩ := x0
  obtain ⟨bc, bl, bh, bz⟩ := x1
  clear r0 r1
  obtain ⟨m, hm⟩ : ∃ m, m = jnR ⟨ac, al, ah, az⟩ ⟨bc, bl, bh, bz⟩ := ⟨_, rfl⟩
  obtain ⟨k, hk⟩ : ∃ k, k = jnC ⟨ac, al, ah, az⟩ ⟨bc, bl, bh, bz⟩ := ⟨_, rfl⟩
  have HM := Lib.hid hm
  have HK := Lib.hid hk
  clear hm hk
  obtain ⟨mc, ml, mh, mz⟩ := m
  have bA := (Box.newAt w 23 (rlC ⟨ac, al, ah, az⟩) _ rfl).alloc (Obj.cells (rlC ⟨bc, bl, bh, bz⟩).toArray 23)
  have bB := Box.newAt (w.alloc (Obj.cells (rlC ⟨ac, al, ah, az⟩).toArray 23)) 23 (rlC ⟨bc, bl, bh, bz⟩) (w.heap.size + 1) (by simp)
  have hA := (h0.alloc (Nat.le_refl _) (Obj.cells (rlC ⟨ac, al, ah, az⟩).toArray 23)).alloc (by simp) (Obj.cells (rlC ⟨bc, bl, bh, bz⟩).toArray 23)
  unfold rlV
  dsimp only
  go_enter Try.func3, Try.ntmps3
  go_wp2_with fail
  refine (roll_Join ⟨ac, al, ah, az⟩ ⟨bc, bl, bh, bz⟩ ⟨mc, ml, mh, mz⟩ k _ HM.out HK.out).mono ?_
  rintro e w1 ⟨rfl, hb1⟩
  have bA1 := bA.below hb1 bA.lt
  have bB1 := bB.below hb1 bB.lt
  have hA1 := hA.trans (hb1.mono hA.size)
  clear bA bB hA
  obtain ⟨cA0, cA1, cA2, cA3⟩ := bA1.cells4
  obtain ⟨cB0, cB1, cB2, cB3⟩ := bB1.cells4
  dsimp only at cA0 cA1 cA2 cA3 cB0 cB1 cB2 cB3
  have lA := bA1.lt
  have lB := bB1.lt
  unfold rlV
  dsimp only
  go_wp2_with fail
  refine (ref_RollJoin ⟨ac, al, ah, az⟩ ⟨bc, bl, bh, bz⟩ ⟨mc, ml, mh, mz⟩ k _ HM.out HK.out).mono ?_
  rintro e w2 ⟨rfl, hb2⟩
  have bM := (Box.newAt w1 23 (rlC ⟨mc, ml, mh, mz⟩) _ rfl).below hb2 (by simp)
  have hA2 := (hA1.alloc hA1.size _).trans (hb2.mono (hA1.alloc hA1.size _).size)
  obtain ⟨cM0, cM1, cM2, cM3⟩ := bM.cells4
  dsimp only at cM0 cM1 cM2 cM3
  have lM := bM.lt
  unfold rlV
  dsimp only
  go_wp2
  go_ret
  exact ⟨ret_bool (by simp), hA2.alloc hA2.size _⟩

theorem own_RollJoins : ownKnob Try.prog.godebug = none := by kernel_rfl
theorem laid_RollJoins : laidOutB Try.prog = true := by kernel_rfl
set_option maxRecDepth 100000 in
theorem lifted_RollJoins (os : Os) (started : os.Started) (H : Type) (enc : TypeId × Value → H) :
    ReturnsInHanded {} Try.checked os 3 .any (Rows.rollJoinsSpec.pre6 enc Try.prog Try.f3 Rows.rollJoinsRow.domain false) (Rows.rollJoinsSpec.post enc Try.prog Try.f3 false true false false) := by
  refine returnsInHanded_of_change_sized (C := Try.checked) own_RollJoins started (by kernel_rfl) Try.func3
    (ChangeSpec.witness6 (enc := enc) (C := Try.checked) false ⟨#[], #[.agg #[.int .i64 0, .int .i64 0, .int .i64 0, .int .i64 0], .agg #[.int .i64 0, .int .i64 0, .int .i64 0, .int .i64 0]], []⟩ 8 (by kernel_rfl) (by kernel_rfl) (by kernel_rfl) (by kernel_rfl)) ?_
  intro W base args ds gs before hval0 hW hcnd hsz0 _
  have hsz : (DataW.weightsEach Try.prog (Try.f3.params.toList ++ Rows.rollJoinsSpec.plain.varTypes Try.prog) (ds ++ gs)).all (· ≤ reachBytes) = true := hsz0
  clear hsz0
  have hval : ∀ (j : Nat) t v, Try.f3.params[j]? = some t → args[j]? = some v → Value.okWide Try.prog W .any base t v := hval0
  have hW' := hW
  obtain ⟨p, q, hA0, hV, rfl, hfz, hnd⟩ := hW
  have hA : DataW.TrodAll enc Try.prog W 0 (fun _ => true) true Try.f3.params.toList args.toList ds p := hA0
  rw [Try.params3] at hA hval hsz
  obtain ⟨v0, vs0, d0, ds0, p0, q0, hargs, rfl, rfl, h0, r0⟩ := trodAll_cons hA
  obtain ⟨v1, vs1, d1, ds1, p1, q1, rfl, rfl, rfl, h1, r1⟩ := trodAll_cons r0
  obtain ⟨rfl, rfl, rfl⟩ := trodAll_nil r1
  obtain rfl : args = #[v0, v1] := by cases args; simp_all
  obtain ⟨rfl, rfl⟩ := trodVars_none hV
  have k0 := h0
  have lt0 : ∀ x ∈ p0, x.block < W.heap.size := by obtain ⟨m, hm⟩ := k0; exact DataW.trod_lt m _ _ _ hm
  obtain ⟨x0, rfl, rr0⟩ := open_Rl Try.underlying23 (by kernel_rfl) (by kernel_rfl) Try.underlying3 (by kernel_rfl) (hval 0 23 v0 rfl rfl) h0
  have k1 := h1
  have lt1 : ∀ x ∈ p1, x.block < W.heap.size := by obtain ⟨m, hm⟩ := k1; exact DataW.trod_lt m _ _ _ hm
  obtain ⟨x1, rfl, rr1⟩ := open_Rl Try.underlying23 (by kernel_rfl) (by kernel_rfl) Try.underlying3 (by kernel_rfl) (hval 1 23 v1 rfl rfl) h1
  clear hA0 hval0 hsz
  refine (law_RollJoins W x0 rr0 x1 rr1).mono fun e W' ⟨he, bel⟩ => ?_
  subst he
  exact ⟨_, rfl, _, _, _, [], _, [], hW', trodAll_mk1 (shut_bool Try.underlying4 _), (trodAll_cons_mk (Below.trod laid_RollJoins (by kernel_rfl) (of_decide_eq_true (by kernel_rfl)) k0 bel lt0) (trodAll_cons_mk (Below.trod laid_RollJoins (by kernel_rfl) (of_decide_eq_true (by kernel_rfl)) k1 bel lt1) trodAll_mk0)), rfl, bel.frame _, fun h => by cases h⟩

theorem rollJoins_holds : Rows.RollJoinsSaid :=
  OpenClaim.holds_of_wide 3 Try.f3 rfl rfl rfl rfl rfl rfl rfl ⟨rfl, rfl, rfl, rfl, rfl⟩ rfl rfl rfl rfl rfl (by kernel_rfl) Try.func3 (by kernel_rfl)
    (of_decide_eq_true (by kernel_rfl)) (by unfold Func.isWrapper; first | (rw [if_pos (by decide +kernel)]; kernel_rfl) | (rw [if_neg (by decide +kernel)]; exact ⟨rfl, rfl⟩))
    (fun os started H enc _ => lifted_RollJoins os started H enc)
#print axioms rollJoins_holds
end Go.Proofs.Ytnpabbinckcbaaa
