/- The words and codes of count are valid: the law's call returns true, and leaves what was there as it was. The package-level tables are as the program lays them. No condition. -/
import Derived.Test.YtnchgdjdfhfedaaDoorPartAF
import Derived.Test.YtnchgdjdfhfedaaDoorPartAZ
import Derived.Test.YtnchgdjdfhfedaaDoorPartAD
set_option linter.unusedSimpArgs false
set_option linter.unusedVariables false
namespace Go.Proofs.YtnchgdjdfhfedaaDoor
open Go.ChangeShapes Go.WideShapes Go.ChangeAt Go.RowKit Go.Ord Go.Baro

set_option maxRecDepth 100000 in
set_option maxHeartbeats 2000000 in
theorem law_CountCodesP (c : Cu) (hc : CuOk c) (hW : W0Spec 8 c.ws) (hA : C0Spec 9 c.ca) (hG : C0Spec 10 c.cg) (w : World) (hT : Tab w) :
    Calls Tryd.prog 3 #[] w fun e w' => e = .returned (.bool true) ∧ Below w.heap.size w w' := by
  have HW := Lib.hid hW
  have HA := Lib.hid hA
  have HG := Lib.hid hG
  have HC := Lib.hid hc
  have HT := Lib.hid hT
  clear hW hA hG hc hT
  go_enter Tryd.func3, Tryd.ntmps3
  go_wp2_with fail
  refine (HW.out _ HT.out).mono ?_
  rintro e w1 ⟨⟨Aw, nw, cw, rfl, hlw, hcw, hq1⟩, hb1⟩
  have HQ1 := Lib.hid hq1
  clear hq1
  go_wp2_with fail
  refine (HA.out w1 (HT.out.below hb1 HT.out.lt)).mono ?_
  rintro e w2 ⟨⟨Ap, np, cp, rfl, hlp, hcp, hq2⟩, hb2⟩
  have HQ2 := Lib.hid hq2
  have hb12 := hb1.trans (hb2.mono hb1.size)
  clear hq2
  go_wp2_with fail
  refine (HG.out w2 (HT.out.below hb12 HT.out.lt)).mono ?_
  rintro e w3 ⟨⟨Ag, ng, cg, rfl, hlg, hcg, hq3⟩, hb3⟩
  have hb13 := hb12.trans (hb3.mono hb12.size)
  have HQ3 := Lib.hid hq3
  clear hq3
  have hnw : c.ws.length = nw := by have := HQ1.out.1; rw [List.length_map, Nat.mul_one] at this; exact this
  have hnp : c.ca.length = np := by have := HQ2.out.1; rw [cellsO_length] at this; omega
  have hng : c.cg.length = ng := by have := HQ3.out.1; rw [cellsO_length] at this; omega
  have hw0 : 0 < nw ∧ nw ≤ 64 := by have := HC.out.w0; have := HC.out.w1; omega
  have hp0 : 0 < np := by have := HC.out.a0; omega
  have hg0 : 0 < ng := by have := HC.out.g0; omega
  have hop : RO w3 w3.heap.size Ap np c.ca := (HQ2.out.kc (Kc.below (T := fun _ => False) hb3) id).rd
  have hog : RO w3 w3.heap.size Ag ng c.cg := HQ3.out.rd
  clear hnw hnp hng
  go_wp2_with fail
  refine (ref_CodeMay c.ca Ap np cp true w3 w3.heap.size hop (Nat.le_refl _) (by omega) (by simp; exact HC.out.ac)).mono ?_
  rintro e w4 ⟨rfl, hb4⟩
  have hb14 := hb13.trans (hb4.mono hb13.size)
  have hog4 := (hog.below hb4).more hb4.size
  go_wp2_with fail
  refine (ref_CodeMay c.cg Ag ng cg true w4 w4.heap.size hog4 (Nat.le_refl _) (by omega) (by simp; exact HC.out.gc)).mono ?_
  rintro e w5 ⟨rfl, hb5⟩
  go_wp2
  go_ret
  exact ⟨by first | rfl | simp, hb14.trans (hb5.mono hb14.size)⟩
theorem own_CountCodes : ownKnob Tryd.prog.godebug = none := by kernel_rfl
theorem laid_CountCodes : laidOutB Tryd.prog = true := by kernel_rfl
set_option maxRecDepth 100000 in
theorem lifted_CountCodes (os : Os) (started : os.Started) (H : Type) (enc : TypeId × Value → H) :
    ReturnsInHanded {} Tryd.checked os 3 .any (fun w args => (Rows.countCodesSpec.pre enc Tryd.prog Tryd.f3 [] false w args ∧ laidMetH Tryd.prog laidL w) ∧ sizedMet enc Tryd.prog Tryd.f3 (OpenSpec.ofChange Rows.countCodesSpec) false w args)
      (Rows.countCodesSpec.post enc Tryd.prog Tryd.f3 false true false false) := by
  refine returnsInHanded_of_change_and (C := Tryd.checked) (X := fun w _ => laidMetH Tryd.prog laidL w) (fun _ _ _ hh h => h.of_heap hh) own_CountCodes started (by kernel_rfl) Tryd.func3
    (ChangeSpec.witness_shaped (enc := enc) (C := Tryd.checked) (os := os) (X := fun w _ => laidMetH Tryd.prog laidL w) false (World.doorLaid Tryd.prog 400 os) #[] 8 rfl (World.shaped_of_RefB (by kernel_rfl) (by kernel_rfl)) (by kernel_rfl) (by kernel_rfl) (by kernel_rfl) (door_met os _)) ?_
  intro W base args ds gs before hval0 hW hcnd hsz0 hL _
  have hsz : (DataW.weightsEach Tryd.prog (Tryd.f3.params.toList ++ Rows.countCodesSpec.plain.varTypes Tryd.prog) (ds ++ gs)).all (· ≤ reachBytes) = true := hsz0
  clear hsz0
  have hval : ∀ (j : Nat) t v, Tryd.f3.params[j]? = some t → args[j]? = some v → Value.okWide Tryd.prog W .any base t v := hval0
  have hW' := hW
  obtain ⟨p, q, hA0, hV, rfl, hfz, hnd⟩ := hW
  have hA : DataW.TrodAll enc Tryd.prog W 0 (fun _ => true) true Tryd.f3.params.toList args.toList ds p := hA0
  rw [Tryd.params3] at hA hval hsz
  obtain ⟨hargs0, rfl, rfl⟩ := trodAll_nil hA
  obtain rfl : args = #[] := by cases args; simp_all
  obtain ⟨rfl, rfl⟩ := trodVars_none hV
  clear hA0 hval0 hsz
  refine ((law_CountCodesP Cnt.cC count_cuOk count_Words count_Add count_Get) W (of_laid hL) ).mono fun e W' ⟨he, bel⟩ => ?_
  subst he
  exact ⟨_, rfl, _, _, _, [], _, [], hW', trodAll_mk1 (shut_bool Tryd.underlying4 _), trodAll_mk0, rfl, bel.frame _, fun h => by cases h⟩

theorem countCodes_holds : Rows.CountCodesSaid :=
  OpenClaim.holds_of_wide 3 Tryd.f3 rfl rfl rfl rfl rfl rfl rfl ⟨rfl, rfl, rfl, rfl, rfl⟩ rfl rfl rfl rfl rfl (by kernel_rfl) Tryd.func3 (by kernel_rfl)
    (of_decide_eq_true (by kernel_rfl)) (by unfold Func.isWrapper; first | (rw [if_pos (by decide +kernel)]; kernel_rfl) | (rw [if_neg (by decide +kernel)]; exact ⟨rfl, rfl⟩))
    (fun os started H enc _ => lifted_CountCodes os started H enc)

theorem countCodes_card : Rows.CountCodesCardSaid :=
  Claim7.holds_tied_plain_at .later [] [.data] true (true, "b15150153f3939ec42a77fd7f66395d413fdfd868a609e8213e6e5264607e997") true
    countCodes_holds (fun _ h => by cases h) (by kernel_rfl) (fun _ h => by cases h) countCodes_row_tie rfl ⟨rfl, rfl⟩ (by kernel_rfl) rfl
    (fun f fn hf hfn => by
      obtain rfl : f = 3 := Option.some.inj ((show Tryd.prog.funcNamed "barograph/barographlaw.CountCodes" = some 3 by kernel_rfl).symm.trans hf) |>.symm
      obtain rfl : fn = Tryd.f3 := (Option.some.inj (Tryd.func3.symm.trans hfn)).symm
      exact ⟨by kernel_rfl, fun j t ht => by
        rw [Tryd.params3] at ht
        have hm : t ∈ [] := by simpa using Array.mem_of_getElem? ht
        have hall : ([].all fun u => !Tryd.prog.wantsStandIn u) = true := by kernel_rfl
        exact (show Tryd.prog.wantsStandIn t = false by simpa using List.all_eq_true.1 hall t hm)⟩)
    (by kernel_rfl)
end Go.Proofs.YtnchgdjdfhfedaaDoor
