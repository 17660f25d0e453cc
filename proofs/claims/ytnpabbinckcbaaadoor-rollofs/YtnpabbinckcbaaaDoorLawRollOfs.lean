/- roll.Of answers what the document says: the law's call returns true, for every input. No condition but the row's own: the table zig.prefixes holds what the program's text lays there. -/
import Derived.Test.YtnpabbinckcbaaaDoorRoll2
import Derived.Test.YtnpabbinckcbaaaDoorRefRollOf
import Derived.Test.YtnpabbinckcbaaaDoorOpen
set_option linter.unusedSimpArgs false
set_option linter.unusedVariables false
namespace Go.Proofs.YtnpabbinckcbaaaDoor
open Go.ChangeShapes Go.WideShapes Go.ChangeAt Go.RowKit Go.Ord Go.Baro

set_option maxHeartbeats 1000000 in
theorem law_RollOfs (w : World) (hT : Tab w) (A0 : Option Addr) (n0 c0 : Nat) (x0 : List (Int × Int)) (h0 : RF w w.heap.size A0 n0 x0) (b0 : n0 ≤ 8796093022208) (r0 : ∀ f ∈ x0, (-9223372036854775808 ≤ f.1 ∧ f.1 ≤ 9223372036854775807) ∧ -9223372036854775808 ≤ f.2 ∧ f.2 ≤ 9223372036854775807) (l0 : n0 ≤ c0) :
    Calls Tryd.prog 3 #[.slice A0 n0 c0] w fun e w' => e = .returned (.bool true) ∧ Below w.heap.size w w' := by
  obtain ⟨m, hm⟩ : ∃ m, m = ofR x0 := ⟨_, rfl⟩
  obtain ⟨k, hk⟩ : ∃ k, k = chC x0 := ⟨_, rfl⟩
  have HM := Lib.hid hm
  have HK := Lib.hid hk
  clear hm hk r0
  obtain ⟨mc, ml, mh, mz⟩ := m
  go_enter Tryd.func3, Tryd.ntmps3
  go_wp2_with fail
  refine (roll_Of x0 _ _ _ ⟨mc, ml, mh, mz⟩ k _ hT h0 b0 HM.out HK.out).mono ?_
  rintro e w1 ⟨rfl, hb1⟩
  have hA1 := hb1.alloc hb1.size (Obj.cells (rlC ⟨mc, ml, mh, mz⟩).toArray 24)
  unfold rlV
  dsimp only
  go_wp2_with fail
  refine (ref_RollOf x0 _ _ _ ⟨mc, ml, mh, mz⟩ k _ ((h0.below hA1).more hA1.size) b0 HM.out HK.out).mono ?_
  rintro e w2 ⟨rfl, hb2⟩
  have bM := (Box.newAt w1 24 (rlC ⟨mc, ml, mh, mz⟩) _ rfl).below hb2 (by simp)
  have hA2 := hA1.trans (hb2.mono hA1.size)
  obtain ⟨cM0, cM1, cM2, cM3⟩ := bM.cells4
  dsimp only at cM0 cM1 cM2 cM3
  have lM := bM.lt
  unfold rlV
  dsimp only
  go_wp2
  go_ret
  exact ⟨ret_bool (by simp), hA2.alloc hA2.size _⟩

theorem own_RollOfs : ownKnob Tryd.prog.godebug = none := by kernel_rfl
theorem laid_RollOfs : laidOutB Tryd.prog = true := by kernel_rfl
set_option maxRecDepth 100000 in
theorem lifted_RollOfs (os : Os) (started : os.Started) (H : Type) (enc : TypeId × Value → H) :
    ReturnsInHanded {} Tryd.checked os 3 .any (fun w args => (Rows.rollOfsSpec.pre enc Tryd.prog Tryd.f3 [] false w args ∧ laidMetH Tryd.prog laidL w) ∧ sizedMet enc Tryd.prog Tryd.f3 (OpenSpec.ofChange Rows.rollOfsSpec) false w args)
      (Rows.rollOfsSpec.post enc Tryd.prog Tryd.f3 false true false false) := by
  refine returnsInHanded_of_change_and (C := Tryd.checked) (X := fun w _ => laidMetH Tryd.prog laidL w) (fun _ _ _ hh h => h.of_heap hh) own_RollOfs started (by kernel_rfl) Tryd.func3
    (ChangeSpec.witness_shaped (enc := enc) (C := Tryd.checked) (os := os) (X := fun w _ => laidMetH Tryd.prog laidL w) false (World.doorLaid Tryd.prog 400 os) #[.slice none 0 0] 8 rfl (World.shaped_of_RefB (by kernel_rfl) (by kernel_rfl)) (by kernel_rfl) (by kernel_rfl) (by kernel_rfl) (door_met os _)) ?_
  intro W base args ds gs before hval0 hW hcnd hsz0 hL _
  have hsz : (DataW.weightsEach Tryd.prog (Tryd.f3.params.toList ++ Rows.rollOfsSpec.plain.varTypes Tryd.prog) (ds ++ gs)).all (· ≤ reachBytes) = true := hsz0
  clear hsz0
  have hval : ∀ (j : Nat) t v, Tryd.f3.params[j]? = some t → args[j]? = some v → Value.okWide Tryd.prog W .any base t v := hval0
  have hW' := hW
  obtain ⟨p, q, hA0, hV, rfl, hfz, hnd⟩ := hW
  have hA : DataW.TrodAll enc Tryd.prog W 0 (fun _ => true) true Tryd.f3.params.toList args.toList ds p := hA0
  rw [Tryd.params3] at hA hval hsz
  obtain ⟨v0, vs0, d0, ds0, p0, q0, hargs, rfl, rfl, h0, r0⟩ := trodAll_cons hA
  obtain ⟨rfl, rfl, rfl⟩ := trodAll_nil r0
  obtain rfl : args = #[v0] := by cases args; simp_all
  obtain ⟨rfl, rfl⟩ := trodVars_none hV
  have k0 := h0
  have lt0 : ∀ x ∈ p0, x.block < W.heap.size := by obtain ⟨m, hm⟩ := k0; exact DataW.trod_lt m _ _ _ hm
  obtain ⟨a0, len0, cap0, rfl⟩ := okWide_slice Tryd.underlying22 (hval 0 22 v0 rfl rfl)
  obtain ⟨x0, ri0, rr0, lc0, hd0⟩ := open_RF Tryd.underlying22 Tryd.underlying39 (by kernel_rfl) Tryd.underlying3 (by kernel_rfl) (by kernel_rfl) h0
  have bd0 : len0 ≤ 8796093022208 := by
    rcases hd0 with ⟨h, _⟩ | ⟨el, sp, hd, hl⟩
    · omega
    · subst hd
      have := sized_slice hsz (j := 0) (t := 22) (e := 39) rfl rfl Tryd.underlying22
      rw [show Tryd.prog.bytesOf 39 = 16 by kernel_rfl] at this
      simp only [reachBytes] at this
      omega
  clear hA0 hval0 hsz
  refine (law_RollOfs W (of_laid hL) a0 len0 cap0 x0 ri0 bd0 rr0 lc0).mono fun e W' ⟨he, bel⟩ => ?_
  subst he
  exact ⟨_, rfl, _, _, _, [], _, [], hW', trodAll_mk1 (shut_bool Tryd.underlying4 _), (trodAll_cons_mk (Below.trod laid_RollOfs (by kernel_rfl) (of_decide_eq_true (by kernel_rfl)) k0 bel lt0) trodAll_mk0), rfl, bel.frame _, fun h => by cases h⟩

theorem rollOfs_holds : Rows.RollOfsSaid :=
  OpenClaim.holds_of_wide 3 Tryd.f3 rfl rfl rfl rfl rfl rfl rfl ⟨rfl, rfl, rfl, rfl, rfl⟩ rfl rfl rfl rfl rfl (by kernel_rfl) Tryd.func3 (by kernel_rfl)
    (of_decide_eq_true (by kernel_rfl)) (by unfold Func.isWrapper; first | (rw [if_pos (by decide +kernel)]; kernel_rfl) | (rw [if_neg (by decide +kernel)]; exact ⟨rfl, rfl⟩))
    (fun os started H enc _ => lifted_RollOfs os started H enc)

theorem rollOfs_card : Rows.RollOfsCardSaid :=
  Claim7.holds_tied_plain_at .later [] [.data] true (true, "916d3032eb380c977195be34e2d04779bbe8d94be5391d87ea0a9ae7f4c67b21") false
    rollOfs_holds (fun _ h => by cases h) (by kernel_rfl) (fun _ h => by cases h) rollOfs_row_tie rfl ⟨rfl, rfl⟩ (by kernel_rfl) rfl
    (fun f fn hf hfn => by
      obtain rfl : f = 3 := Option.some.inj ((show Tryd.prog.funcNamed "barograph/barographlaw.RollOfs" = some 3 by kernel_rfl).symm.trans hf) |>.symm
      obtain rfl : fn = Tryd.f3 := (Option.some.inj (Tryd.func3.symm.trans hfn)).symm
      exact ⟨by kernel_rfl, fun j t ht => by
        rw [Tryd.params3] at ht
        have hm : t ∈ [22] := by simpa using Array.mem_of_getElem? ht
        have hall : ([22].all fun u => !Tryd.prog.wantsStandIn u) = true := by kernel_rfl
        exact (show Tryd.prog.wantsStandIn t = false by simpa using List.all_eq_true.1 hall t hm)⟩)
    (by kernel_rfl)
#print axioms rollOfs_card
end Go.Proofs.YtnpabbinckcbaaaDoor
