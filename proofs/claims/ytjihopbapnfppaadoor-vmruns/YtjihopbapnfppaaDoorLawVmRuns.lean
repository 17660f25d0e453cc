/- vm.Run answers what the document says: the law's call returns true, for every input, and leaves what was there as it was. The table of operands is as the package lays it. No condition but that each slice takes at most 2^47 - 4096 bytes. -/
import Derived.Test.YtjihopbapnfppaaDoorRefVm2
import Derived.Test.YtjihopbapnfppaaDoorVm7
import Derived.Test.YtjihopbapnfppaaDoorSameInts
import Derived.Test.YtjihopbapnfppaaDoorOpen
set_option linter.unusedSimpArgs false
set_option linter.unusedVariables false
namespace Go.Proofs.YtjihopbapnfppaaDoor
open Go.ChangeShapes Go.WideShapes Go.ChangeAt Go.RowKit Go.Ord Go.Baro

set_option maxHeartbeats 1000000 in
theorem law_VmRuns (w : World) (hT : Tab w) (A0 : Option Addr) (n0 c0 : Nat) (x0 : List Ins) (h0 : RO w w.heap.size A0 n0 x0) (b0 : n0 ≤ 3518437208883) (r0 : ∀ f ∈ x0, inI f) (_ : n0 ≤ c0)
    (A1 : Option Addr) (n1 c1 : Nat) (x1 : List Int) (h1 : RI w w.heap.size .i64 A1 n1 x1) (b1 : n1 ≤ 17592186044416) (r1 : ∀ x ∈ x1, -9223372036854775808 ≤ x ∧ x ≤ 9223372036854775807) (_ : n1 ≤ c1)
    (A2 : Option Addr) (n2 c2 : Nat) (x2 : List Int) (h2 : RI w w.heap.size .i64 A2 n2 x2) (b2 : n2 ≤ 17592186044416) (r2 : ∀ x ∈ x2, -9223372036854775808 ≤ x ∧ x ≤ 9223372036854775807) (_ : n2 ≤ c2)
    (x3 : Int) (r3 : -9223372036854775808 ≤ x3 ∧ x3 ≤ 9223372036854775807) :
    Calls Tryd.prog 4 #[.slice A0 n0 c0, .slice A1 n1 c1, .slice A2 n2 c2, .int .i64 x3] w fun e w' => e = .returned (.bool true) ∧ Below w.heap.size w w' := by
  obtain ⟨T, W, N, E, hR⟩ : ∃ T W N E, (T, W, N, E) = vmR x0 x1 x2 x3 := ⟨_, _, _, _, rfl⟩
  have HR := Lib.hid hR
  have R0 := Lib.hid r0
  have R1 := Lib.hid (show ∀ x ∈ x1, inW x from r1)
  have R2 := Lib.hid (show ∀ x ∈ x2, inW x from r2)
  clear hR r0 r1 r2 r3
  go_enter Tryd.func4, Tryd.ntmps4
  go_wp2_with fail
  refine (vm_Run x0 x1 x2 x3 A0 A1 A2 n0 c0 n1 c1 n2 c2 w hT h0 (by omega) R0.out h1 (by omega) R1.out h2 (by omega) R2.out T W N E HR.out).mono ?_
  rintro e w1 ⟨B1, m1, d1, B2, m2, d2, rfl, hr1, hr2, hl1, hl2, hm1, hm2, hb1⟩
  have hs1 := hb1.size
  go_wp2_with fail
  refine (ref_VmRan x0 x1 x2 x3 A0 A1 A2 n0 c0 n1 c1 n2 c2 w1 ((h0.below hb1).more hs1) (by omega) R0.out ((h1.below hb1).more hs1) (by omega) R1.out ((h2.below hb1).more hs1) (by omega) R2.out T W N E HR.out).mono ?_
  rintro e w2 ⟨B3, m3, d3, B4, m4, d4, rfl, hr3, hr4, hl3, hl4, hm3, hm4, hb2⟩
  have hs2 := hb2.size
  go_wp2_with fail
  refine (law_sameInts T T B1 B3 m1 d1 m3 d3 w2 _ _ true (hr1.below hb2) hr3 (by simp) (by omega) (by omega)).mono ?_
  rintro e w3 ⟨rfl, k3, rfl⟩
  go_wp2_with fail
  refine (law_sameInts W W B2 B4 m2 d2 m4 d4 _ w1.heap.size w2.heap.size true (by exact (hr2.below hb2).heap rfl) (by exact hr4.heap rfl) (by simp) (by omega) (by omega)).mono ?_
  rintro e w4 ⟨rfl, k4, rfl⟩
  go_wp2
  go_ret
  exact ⟨by simp, (hb1.trans (hb2.mono hs1)).drewN _⟩

theorem own_VmRuns : ownKnob Tryd.prog.godebug = none := by kernel_rfl
theorem laid_VmRuns : laidOutB Tryd.prog = true := by kernel_rfl
set_option maxRecDepth 100000 in
theorem lifted_VmRuns (os : Os) (started : os.Started) (H : Type) (enc : TypeId × Value → H) :
    ReturnsInHanded {} Tryd.checked os 4 .any (fun w args => (Rows.vmRunsSpec.pre enc Tryd.prog Tryd.f4 [] false w args ∧ laidMetH Tryd.prog laidL w) ∧ sizedMet enc Tryd.prog Tryd.f4 (OpenSpec.ofChange Rows.vmRunsSpec) false w args)
      (Rows.vmRunsSpec.post enc Tryd.prog Tryd.f4 false true false false) := by
  refine returnsInHanded_of_change_and (C := Tryd.checked) (X := fun w _ => laidMetH Tryd.prog laidL w) (fun _ _ _ hh h => h.of_heap hh) own_VmRuns started (by kernel_rfl) Tryd.func4
    (ChangeSpec.witness_shaped (enc := enc) (C := Tryd.checked) (os := os) (X := fun w _ => laidMetH Tryd.prog laidL w) false (World.doorLaid Tryd.prog 400 os) #[.slice none 0 0, .slice none 0 0, .slice none 0 0, .int .i64 0] 8 rfl (World.shaped_of_RefB (by kernel_rfl) (by kernel_rfl)) (by kernel_rfl) (by kernel_rfl) (by kernel_rfl) (door_met os _)) ?_
  intro W base args ds gs before hval0 hW hcnd hsz0 hL _
  have hsz : (DataW.weightsEach Tryd.prog (Tryd.f4.params.toList ++ Rows.vmRunsSpec.plain.varTypes Tryd.prog) (ds ++ gs)).all (· ≤ reachBytes) = true := hsz0
  clear hsz0
  have hval : ∀ (j : Nat) t v, Tryd.f4.params[j]? = some t → args[j]? = some v → Value.okWide Tryd.prog W .any base t v := hval0
  have hW' := hW
  obtain ⟨p, q, hA0, hV, rfl, hfz, hnd⟩ := hW
  have hA : DataW.TrodAll enc Tryd.prog W 0 (fun _ => true) true Tryd.f4.params.toList args.toList ds p := hA0
  rw [Tryd.params4] at hA hval hsz
  obtain ⟨v0, vs0, d0, ds0, p0, q0, hargs, rfl, rfl, h0, r0⟩ := trodAll_cons hA
  obtain ⟨v1, vs1, d1, ds1, p1, q1, rfl, rfl, rfl, h1, r1⟩ := trodAll_cons r0
  obtain ⟨v2, vs2, d2, ds2, p2, q2, rfl, rfl, rfl, h2, r2⟩ := trodAll_cons r1
  obtain ⟨v3, vs3, d3, ds3, p3, q3, rfl, rfl, rfl, h3, r3⟩ := trodAll_cons r2
  obtain ⟨rfl, rfl, rfl⟩ := trodAll_nil r3
  obtain rfl : args = #[v0, v1, v2, v3] := by cases args; simp_all
  obtain ⟨rfl, rfl⟩ := trodVars_none hV
  have k0 := h0
  have lt0 : ∀ x ∈ p0, x.block < W.heap.size := by obtain ⟨m, hm⟩ := k0; exact DataW.trod_lt m _ _ _ hm
  obtain ⟨a0, len0, cap0, rfl⟩ := okWide_slice Tryd.underlying22 (hval 0 22 v0 rfl rfl)
  obtain ⟨x0, ri0, rr0, lc0, hd0⟩ := open_RO Tryd.underlying22 Tryd.underlying37 (by kernel_rfl) Tryd.underlying3 (by kernel_rfl) (by kernel_rfl) h0
  have bd0 : len0 ≤ 3518437208883 := by
    rcases hd0 with ⟨h, _⟩ | ⟨el, sp, hd, hl⟩
    · omega
    · subst hd
      have := sized_slice hsz (j := 0) (t := 22) (e := 37) rfl rfl Tryd.underlying22
      rw [show Tryd.prog.bytesOf 37 = 40 by kernel_rfl] at this
      simp only [reachBytes] at this
      omega
  have k1 := h1
  have lt1 : ∀ x ∈ p1, x.block < W.heap.size := by obtain ⟨m, hm⟩ := k1; exact DataW.trod_lt m _ _ _ hm
  obtain ⟨a1, len1, cap1, rfl⟩ := okWide_slice Tryd.underlying24 (hval 1 24 v1 rfl rfl)
  obtain ⟨x1, ri1, wx1, lc1, hd1⟩ := open_RI Tryd.underlying24 Tryd.underlying3 (by kernel_rfl) h1
  have bd1 : len1 ≤ 17592186044416 := by
    rcases hd1 with ⟨h, _⟩ | ⟨el, sp, hd, hl⟩
    · omega
    · subst hd
      have := sized_slice hsz (j := 1) (t := 24) (e := 3) rfl rfl Tryd.underlying24
      rw [show Tryd.prog.bytesOf 3 = 8 by kernel_rfl] at this
      simp only [reachBytes] at this
      omega
  have rr1 : ∀ x ∈ x1, -9223372036854775808 ≤ x ∧ x ≤ 9223372036854775807 := fun x hx => bounds_i64 (wx1 x hx)
  have k2 := h2
  have lt2 : ∀ x ∈ p2, x.block < W.heap.size := by obtain ⟨m, hm⟩ := k2; exact DataW.trod_lt m _ _ _ hm
  obtain ⟨a2, len2, cap2, rfl⟩ := okWide_slice Tryd.underlying24 (hval 2 24 v2 rfl rfl)
  obtain ⟨x2, ri2, wx2, lc2, hd2⟩ := open_RI Tryd.underlying24 Tryd.underlying3 (by kernel_rfl) h2
  have bd2 : len2 ≤ 17592186044416 := by
    rcases hd2 with ⟨h, _⟩ | ⟨el, sp, hd, hl⟩
    · omega
    · subst hd
      have := sized_slice hsz (j := 2) (t := 24) (e := 3) rfl rfl Tryd.underlying24
      rw [show Tryd.prog.bytesOf 3 = 8 by kernel_rfl] at this
      simp only [reachBytes] at this
      omega
  have rr2 : ∀ x ∈ x2, -9223372036854775808 ≤ x ∧ x ≤ 9223372036854775807 := fun x hx => bounds_i64 (wx2 x hx)
  have k3 := h3
  have lt3 : ∀ x ∈ p3, x.block < W.heap.size := by obtain ⟨m, hm⟩ := k3; exact DataW.trod_lt m _ _ _ hm
  obtain ⟨x3, rfl, rfl, rfl, wx3⟩ := open_int Tryd.underlying3 (hval 3 3 v3 rfl rfl) h3
  have rr3 := bounds_i64 wx3
  clear hA0 hval0 hsz
  refine (law_VmRuns W (of_laid hL) a0 len0 cap0 x0 ri0 bd0 rr0 lc0 a1 len1 cap1 x1 ri1 bd1 rr1 lc1 a2 len2 cap2 x2 ri2 bd2 rr2 lc2 x3 rr3).mono fun e W' ⟨he, bel⟩ => ?_
  subst he
  exact ⟨_, rfl, _, _, _, [], _, [], hW', trodAll_mk1 (shut_bool Tryd.underlying4 _), (trodAll_cons_mk (Below.trod laid_VmRuns (by kernel_rfl) (of_decide_eq_true (by kernel_rfl)) k0 bel lt0) (trodAll_cons_mk (Below.trod laid_VmRuns (by kernel_rfl) (of_decide_eq_true (by kernel_rfl)) k1 bel lt1) (trodAll_cons_mk (Below.trod laid_VmRuns (by kernel_rfl) (of_decide_eq_true (by kernel_rfl)) k2 bel lt2) (trodAll_cons_mk (Below.trod laid_VmRuns (by kernel_rfl) (of_decide_eq_true (by kernel_rfl)) k3 bel lt3) trodAll_mk0)))), rfl, bel.frame _, fun h => by cases h⟩

theorem vmRuns_holds : Rows.VmRunsSaid :=
  OpenClaim.holds_of_wide 4 Tryd.f4 rfl rfl rfl rfl rfl rfl rfl ⟨rfl, rfl, rfl, rfl, rfl⟩ rfl rfl rfl rfl rfl (by kernel_rfl) Tryd.func4 (by kernel_rfl)
    (of_decide_eq_true (by kernel_rfl)) (by unfold Func.isWrapper; first | (rw [if_pos (by decide +kernel)]; kernel_rfl) | (rw [if_neg (by decide +kernel)]; exact ⟨rfl, rfl⟩))
    (fun os started H enc _ => lifted_VmRuns os started H enc)

theorem vmRuns_card : Rows.VmRunsCardSaid :=
  Claim7.holds_tied_plain_at .later [] [.data] true (true, "58d819e43b9a1d437716ba237cfa0f32b282f039ee28317ee5c294f83b14d48e") false
    vmRuns_holds (fun _ h => by cases h) (by kernel_rfl) (fun _ h => by cases h) vmRuns_row_tie rfl ⟨rfl, rfl⟩ (by kernel_rfl) rfl
    (fun f fn hf hfn => by
      obtain rfl : f = 4 := Option.some.inj ((show Tryd.prog.funcNamed "barograph/barographlaw.VmRuns" = some 4 by kernel_rfl).symm.trans hf) |>.symm
      obtain rfl : fn = Tryd.f4 := (Option.some.inj (Tryd.func4.symm.trans hfn)).symm
      exact ⟨by kernel_rfl, fun j t ht => by
        rw [Tryd.params4] at ht
        have hm : t ∈ [22, 24, 24, 3] := by simpa using Array.mem_of_getElem? ht
        have hall : ([22, 24, 24, 3].all fun u => !Tryd.prog.wantsStandIn u) = true := by kernel_rfl
        exact (show Tryd.prog.wantsStandIn t = false by simpa using List.all_eq_true.1 hall t hm)⟩)
    (by kernel_rfl)
end Go.Proofs.YtjihopbapnfppaaDoor
