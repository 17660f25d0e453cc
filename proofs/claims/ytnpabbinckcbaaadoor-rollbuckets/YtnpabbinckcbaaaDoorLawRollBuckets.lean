/- roll.Buckets answers what the document says: the law's call returns true, for every input. No condition but the row's own: the table zig.prefixes holds what the program's text lays there. -/
import Derived.Test.YtnpabbinckcbaaaDoorRefBuckets
import Derived.Test.YtnpabbinckcbaaaDoorSameSamples
import Derived.Test.YtnpabbinckcbaaaDoorOpen
set_option linter.unusedSimpArgs false
set_option linter.unusedVariables false
namespace Go.Proofs.YtnpabbinckcbaaaDoor
open Go.ChangeShapes Go.WideShapes Go.ChangeAt Go.RowKit Go.Ord Go.Baro

theorem buP_len (l : List (Int × Int)) (d : Int) : (buP l d).length ≤ 100 := by
  unfold buP
  split
  · rename_i h
    unfold buC at h
    split at h
    · split at h
      · split at h
        · omega
        · omega
      · contradiction
    · omega
  · simp

set_option maxRecDepth 100000 in
set_option maxHeartbeats 2000000 in
theorem law_RollBuckets (w : World) (hT : Tab w) (A0 : Option Addr) (n0 c0 : Nat) (x0 : List (Int × Int)) (h0 : RF w w.heap.size A0 n0 x0) (b0 : n0 ≤ 8796093022208) (r0 : ∀ f ∈ x0, (-9223372036854775808 ≤ f.1 ∧ f.1 ≤ 9223372036854775807) ∧ -9223372036854775808 ≤ f.2 ∧ f.2 ≤ 9223372036854775807) (l0 : n0 ≤ c0)
    (x1 : Int) (r1 : -9223372036854775808 ≤ x1 ∧ x1 ≤ 9223372036854775807) :
    Calls Tryd.prog 4 #[.slice A0 n0 c0, .int .i64 x1] w fun e w' => e = .returned (.bool true) ∧ Below w.heap.size w w' := by
  obtain ⟨F, hF⟩ : ∃ F, F = bkF x1 (buP x0 x1) := ⟨_, rfl⟩
  obtain ⟨R, hR⟩ : ∃ R, R = bkR (buP x0 x1) := ⟨_, rfl⟩
  obtain ⟨N, hN⟩ : ∃ N, N = (buP x0 x1).length := ⟨_, rfl⟩
  obtain ⟨K, hK⟩ : ∃ K, K = buC x0 x1 := ⟨_, rfl⟩
  have HF := Lib.hid hF
  have HR := Lib.hid hR
  have HN := Lib.hid hN
  have HK := Lib.hid hK
  have hl : N ≤ 100 := by rw [hN]; exact buP_len _ _
  clear hF hR hN hK r0
  go_enter Tryd.func4, Tryd.ntmps4
  go_wp2_with fail
  refine (roll_Buckets x0 _ _ _ x1 _ hT h0 b0).mono ?_
  rintro e w1 ⟨v1, v2, rfl, hF1, hR1, hb1⟩
  rw [← HK.out]
  rw [← HF.out, ← HN.out] at hF1
  rw [← HR.out, ← HN.out] at hR1
  go_wp2_with fail
  refine (ref_RollBuckets x0 _ _ _ x1 _ ((h0.below hb1).more hb1.size) b0).mono ?_
  rintro e w2 ⟨v3, v4, rfl, hF2, hR2, hb2⟩
  rw [← HK.out]
  rw [← HF.out, ← HN.out] at hF2
  rw [← HR.out, ← HN.out] at hR2
  have hF1' := own_below hF1 hb2
  have hR1' := own_below hR1 hb2
  have hA2 := hb1.trans (hb2.mono hb1.size)
  obtain ⟨A1, cA1, rfl, _⟩ := own_form hF1'
  obtain ⟨A2, cA2, rfl, _⟩ := own_form hR1'
  obtain ⟨A3, cA3, rfl, _⟩ := own_form hF2
  obtain ⟨A4, cA4, rfl, _⟩ := own_form hR2
  have f1 : RF w2 w2.heap.size A1 N F := Rd.of_own hF1'
  have f2 : RF w2 w2.heap.size A3 N F := Rd.of_own hF2
  have g1 : RR w2 w2.heap.size A2 N R := Rd.of_own hR1'
  have g2 : RR w2 w2.heap.size A4 N R := Rd.of_own hR2
  clear hF1 hR1 hF1' hR1' hF2 hR2 hb1 hb2
  go_wp2_with fail
  refine (law_sameSamples F F _ _ _ _ _ _ _ _ _ true f1 f2 (by simp) (by omega) (by omega)).mono ?_
  rintro e w3 ⟨rfl, m3, rfl⟩
  go_wp2
  go_loopw [11] (fun i wr => ∃ j : Nat, j ≤ N ∧ i = .int .i64 j ∧ Below w2.heap.size w2 wr) (fun i _ => N - (intOf i).toNat)
  case atStart => exact ⟨0, Nat.zero_le _, rfl, (Below.refl _ _).drewN m3⟩
  case round =>
    obtain ⟨j, hj, rfl, hbel⟩ := hrel
    by_cases hlt : j < N
    · obtain ⟨b, o, qc, ql, qh, qz, rfl, hbb, k0, k1, k2, k3, HX⟩ := (g1.below hbel).val hlt
      obtain ⟨b', o', qc', ql', qh', qz', rfl, hbb', k0', k1', k2', k3', HX'⟩ := (g2.below hbel).val hlt
      have he := HX.out
      rw [HX'.out] at he
      injection he with he
      injection he with he1 he2 he3 he4
      subst he1 he2 he3 he4
      go_wp2
      refine region_two [0, 1, 2, 3, 4, 5, 6, 7] [8] (by kernel_rfl) (by kernel_rfl) ?_
      simp only [pick, List.map_cons, List.map_nil, List.getD_cons_zero, List.getD_cons_succ]
      go_wp2
      go_roundw
      case rel => exact ⟨j + 1, by omega, by go_num, hbel.drewN 1⟩
      case measure => simp [intOf]; omega
    · go_wp2
      go_ret
      exact ⟨rfl, hA2.trans (hbel.mono hA2.size)⟩

theorem own_RollBuckets : ownKnob Tryd.prog.godebug = none := by kernel_rfl
theorem laid_RollBuckets : laidOutB Tryd.prog = true := by kernel_rfl
set_option maxRecDepth 100000 in
theorem lifted_RollBuckets (os : Os) (started : os.Started) (H : Type) (enc : TypeId × Value → H) :
    ReturnsInHanded {} Tryd.checked os 4 .any (fun w args => (Rows.rollBucketsSpec.pre enc Tryd.prog Tryd.f4 [] false w args ∧ laidMetH Tryd.prog laidL w) ∧ sizedMet enc Tryd.prog Tryd.f4 (OpenSpec.ofChange Rows.rollBucketsSpec) false w args)
      (Rows.rollBucketsSpec.post enc Tryd.prog Tryd.f4 false true false false) := by
  refine returnsInHanded_of_change_and (C := Tryd.checked) (X := fun w _ => laidMetH Tryd.prog laidL w) (fun _ _ _ hh h => h.of_heap hh) own_RollBuckets started (by kernel_rfl) Tryd.func4
    (ChangeSpec.witness_shaped (enc := enc) (C := Tryd.checked) (os := os) (X := fun w _ => laidMetH Tryd.prog laidL w) false (World.doorLaid Tryd.prog 400 os) #[.slice none 0 0, .int .i64 0] 8 rfl (World.shaped_of_RefB (by kernel_rfl) (by kernel_rfl)) (by kernel_rfl) (by kernel_rfl) (by kernel_rfl) (door_met os _)) ?_
  intro W base args ds gs before hval0 hW hcnd hsz0 hL _
  have hsz : (DataW.weightsEach Tryd.prog (Tryd.f4.params.toList ++ Rows.rollBucketsSpec.plain.varTypes Tryd.prog) (ds ++ gs)).all (· ≤ reachBytes) = true := hsz0
  clear hsz0
  have hval : ∀ (j : Nat) t v, Tryd.f4.params[j]? = some t → args[j]? = some v → Value.okWide Tryd.prog W .any base t v := hval0
  have hW' := hW
  obtain ⟨p, q, hA0, hV, rfl, hfz, hnd⟩ := hW
  have hA : DataW.TrodAll enc Tryd.prog W 0 (fun _ => true) true Tryd.f4.params.toList args.toList ds p := hA0
  rw [Tryd.params4] at hA hval hsz
  obtain ⟨v0, vs0, d0, ds0, p0, q0, hargs, rfl, rfl, h0, r0⟩ := trodAll_cons hA
  obtain ⟨v1, vs1, d1, ds1, p1, q1, rfl, rfl, rfl, h1, r1⟩ := trodAll_cons r0
  obtain ⟨rfl, rfl, rfl⟩ := trodAll_nil r1
  obtain rfl : args = #[v0, v1] := by cases args; simp_all
  obtain ⟨rfl, rfl⟩ := trodVars_none hV
  have k0 := h0
  have lt0 : ∀ x ∈ p0, x.block < W.heap.size := by obtain ⟨m, hm⟩ := k0; exact DataW.trod_lt m _ _ _ hm
  obtain ⟨a0, len0, cap0, rfl⟩ := okWide_slice Tryd.underlying22 (hval 0 22 v0 rfl rfl)
  obtain ⟨x0, ri0, rr0, lc0, hd0⟩ := open_RF Tryd.underlying22 Tryd.underlying39 (by kernel_rfl) Tryd.underlying3 (by kernel_rfl) (by kernel_rfl) h0
  have bd0 : len0 ≤ 8796093022208 := by
    rcases hd0 with ⟨h, _⟩ | ⟨el, sp, hd, hl⟩
    · omega
    · subst hd
      have := sized_slice hsz (j := 0) (t := 22) (e := 39) rfl rfl Tryd.underlying22
      rw [show Tryd.prog.bytesOf 39 = 16 by kernel_rfl] at this
      simp only [reachBytes] at this
      omega
  have k1 := h1
  have lt1 : ∀ x ∈ p1, x.block < W.heap.size := by obtain ⟨m, hm⟩ := k1; exact DataW.trod_lt m _ _ _ hm
  obtain ⟨x1, rfl, rfl, rfl, wx1⟩ := open_int Tryd.underlying3 (hval 1 3 v1 rfl rfl) h1
  have rr1 := bounds_i64 wx1
  clear hA0 hval0 hsz
  refine (law_RollBuckets W (of_laid hL) a0 len0 cap0 x0 ri0 bd0 rr0 lc0 x1 rr1).mono fun e W' ⟨he, bel⟩ => ?_
  subst he
  exact ⟨_, rfl, _, _, _, [], _, [], hW', trodAll_mk1 (shut_bool Tryd.underlying4 _), (trodAll_cons_mk (Below.trod laid_RollBuckets (by kernel_rfl) (of_decide_eq_true (by kernel_rfl)) k0 bel lt0) (trodAll_cons_mk (Below.trod laid_RollBuckets (by kernel_rfl) (of_decide_eq_true (by kernel_rfl)) k1 bel lt1) trodAll_mk0)), rfl, bel.frame _, fun h => by cases h⟩

theorem rollBuckets_holds : Rows.RollBucketsSaid :=
  OpenClaim.holds_of_wide 4 Tryd.f4 rfl rfl rfl rfl rfl rfl rfl ⟨rfl, rfl, rfl, rfl, rfl⟩ rfl rfl rfl rfl rfl (by kernel_rfl) Tryd.func4 (by kernel_rfl)
    (of_decide_eq_true (by kernel_rfl)) (by unfold Func.isWrapper; first | (rw [if_pos (by decide +kernel)]; kernel_rfl) | (rw [if_neg (by decide +kernel)]; exact ⟨rfl, rfl⟩))
    (fun os started H enc _ => lifted_RollBuckets os started H enc)

theorem rollBuckets_card : Rows.RollBucketsCardSaid :=
  Claim7.holds_tied_plain_at .later [] [.data] true (true, "916d3032eb380c977195be34e2d04779bbe8d94be5391d87ea0a9ae7f4c67b21") false
    rollBuckets_holds (fun _ h => by cases h) (by kernel_rfl) (fun _ h => by cases h) rollBuckets_row_tie rfl ⟨rfl, rfl⟩ (by kernel_rfl) rfl
    (fun f fn hf hfn => by
      obtain rfl : f = 4 := Option.some.inj ((show Tryd.prog.funcNamed "barograph/barographlaw.RollBuckets" = some 4 by kernel_rfl).symm.trans hf) |>.symm
      obtain rfl : fn = Tryd.f4 := (Option.some.inj (Tryd.func4.symm.trans hfn)).symm
      exact ⟨by kernel_rfl, fun j t ht => by
        rw [Tryd.params4] at ht
        have hm : t ∈ [22, 3] := by simpa using Array.mem_of_getElem? ht
        have hall : ([22, 3].all fun u => !Tryd.prog.wantsStandIn u) = true := by kernel_rfl
        exact (show Tryd.prog.wantsStandIn t = false by simpa using List.all_eq_true.1 hall t hm)⟩)
    (by kernel_rfl)
#print axioms rollBuckets_card
end Go.Proofs.YtnpabbinckcbaaaDoor
