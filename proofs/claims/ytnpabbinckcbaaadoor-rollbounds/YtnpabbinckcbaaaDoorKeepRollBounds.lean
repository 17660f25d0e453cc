/- Every value, and the mean, lies between the least and the greatest, which both occur: the law's call returns true, for every input. No condition but the row's own: the table zig.prefixes holds what the program's text lays there. -/
import Derived.Test.YtnpabbinckcbaaaDoorRoll2
import Derived.Test.YtnpabbinckcbaaaDoorKeepSamples
import Derived.Test.YtnpabbinckcbaaaDoorRollWin
import Derived.Test.YtnpabbinckcbaaaDoorRollPure3
set_option linter.unusedSimpArgs false
set_option linter.unusedVariables false
namespace Go.Proofs.YtnpabbinckcbaaaDoor
open Go.ChangeShapes Go.WideShapes Go.ChangeAt Go.RowKit Go.Ord Go.Baro

/-- Whether a number is among the first j, one more. -/
theorem among_next {vs : List Int} {j : Nat} {y m : Int} {L : Bool} (h : vs[j]? = some y) (hL : L = true ↔ m ∈ vs.take j) : (L || (y == m)) = true ↔ m ∈ vs.take (j + 1) := by
  rw [at_take h, List.mem_append, Bool.or_eq_true, hL]
  simp
  constructor
  · rintro (h | h)
    · exact .inl h
    · exact .inr h.symm
  · rintro (h | h)
    · exact .inl h
    · exact .inr h.symm

set_option maxRecDepth 100000 in
set_option maxHeartbeats 4000000 in
theorem keep_RollBounds (w : World) (hT : Tab w) (A0 : Option Addr) (n0 c0 : Nat) (x0 : List (Int × Int × Bool)) (h0 : RD w w.heap.size A0 n0 x0) (b0 : n0 ≤ 5864062014805) (r0 : ∀ f ∈ x0, (-9223372036854775808 ≤ f.1 ∧ f.1 ≤ 9223372036854775807) ∧ -9223372036854775808 ≤ f.2.1 ∧ f.2.1 ≤ 9223372036854775807) (l0 : n0 ≤ c0)
    (x1 : Int) (r1 : -9223372036854775808 ≤ x1 ∧ x1 ≤ 9223372036854775807) (x2 : Int) (r2 : -9223372036854775808 ≤ x2 ∧ x2 ≤ 9223372036854775807) :
    Calls Tryd.prog 6 #[.slice A0 n0 c0, .int .i64 x1, .int .i64 x2] w fun e w' => e = .returned (.bool true) ∧ Below w.heap.size w w' := by
  have lT := hT.lt
  go_enter Tryd.func6, Tryd.ntmps6
  go_wp2_with fail
  refine (keep_SamplesV x0 A0 n0 c0 x1 120 _ h0 b0 r0 r1 (by omega)).mono ?_
  rintro e w1 ⟨v1, S, rfl, HS, HV, hSl, hown1, hA1⟩
  have hT1 := hT.below hA1 lT
  have hC := HS.out.ch hSl
  have HC := Lib.hid hC
  clear hC r0 r1
  obtain ⟨N, hown, hN⟩ := own_count hown1
  have HN := Lib.hid hN.symm
  rw [← hN] at hSl
  clear hN hown1
  obtain ⟨t, ht⟩ : ∃ t, t = ofR S := ⟨_, rfl⟩
  have Hr := Lib.hid (ht.trans (ofR_ok HC.out)).symm
  have Ht := Lib.hid ht
  have htc : t.c = (N : Int) := by rw [← Hr.out, rollV_c, valS_len, HN.out]
  have htR := rollV_R (valS S) (by rw [valS_len, HN.out]; omega) (fun v hv => by have := valS_range HC.out v hv; unfold InR at this; unfold I64; omega) (by have := valS_sum HC.out N; rwa [List.take_of_length_le (by rw [valS_len, HN.out]; omega)] at this)
  rw [Hr.out] at htR
  clear ht
  obtain ⟨tc, tl, th, tz⟩ := t
  dsimp only at htc
  subst htc
  unfold rlR I64 at htR
  dsimp only at htR
  rcases Nat.eq_zero_or_pos N with rfl | hpos
  · have hS0 : S = [] := List.eq_nil_of_length_eq_zero HN.out
    subst hS0
    obtain ⟨rfl, rfl, rfl⟩ : tl = 0 ∧ th = 0 ∧ tz = 0 := by
      have := Hr.out
      simp [valS, rollV, rl0] at this
      omega
    obtain ⟨B1, cp, rfl, hcp⟩ := own_form hown
    go_wp2_with fail
    refine (roll_Of [] _ _ _ rl0 0 _ hT1 (RF.nil _ _ _) (by omega) (ofR_ok HC.out).symm HC.out.symm).mono ?_
    rintro e w2 ⟨rfl, hb2⟩
    have hA2 := hA1.trans (hb2.mono hA1.size)
    unfold rlV rl0
    dsimp only
    go_wp2_with fail
    refine (roll_Of [(0, 3)] _ _ _ (rl1 3) 0 _ (hT.below ((hA2.alloc hA2.size _).alloc (hA2.alloc hA2.size _).size _) lT) (RF_lit1 _ _ 0 3 _ (by simp)) (by omega) ofR_one3.symm chC_one3.symm).mono ?_
    rintro e w3 ⟨rfl, hb3⟩
    have bR : Box w3 w2.heap.size 24 (rlC rl0) := ((Box.newAt w2 24 (rlC rl0) _ rfl).alloc _).below hb3 ((Box.newAt w2 24 (rlC rl0) _ rfl).alloc _).lt
    have hA3 := ((hA2.alloc hA2.size _).alloc (hA2.alloc hA2.size _).size _).trans (hb3.mono ((hA2.alloc hA2.size _).alloc (hA2.alloc hA2.size _).size _).size)
    obtain ⟨cR0, cR1, cR2, cR3⟩ := bR.cells4
    have lR := bR.lt
    dsimp only [rl0] at cR0 cR1 cR2 cR3
    unfold rlV rl1
    dsimp only
    go_wp2
    go_ret
    exact ⟨ret_bool (by simp), hA3.alloc hA3.size _⟩
  have HM := Lib.hid (roll_mean (vs := valS S) (fun h => by have := valS_len S; rw [h, HN.out] at this; simp at this; omega) Hr.out)
  have HE := Lib.hid (rollV_ends (valS S) (fun h => by have := valS_len S; rw [h, HN.out] at this; simp at this; omega))
  rw [Hr.out] at HE
  obtain ⟨g, cp, rfl, hbg, hgl, hcp⟩ := own_some hown hpos
  have hR1 : RF w1 w1.heap.size (some ⟨g, 0, none⟩) N S := Rd.of_own hown
  clear hown
  go_wp2_with fail
  refine (roll_Of S _ _ _ ⟨(N : Int), tl, th, tz⟩ 0 _ hT1 hR1 (by omega) Ht.out HC.out.symm).mono ?_
  rintro e w2 ⟨rfl, hb2⟩
  have hA2 := hA1.trans (hb2.mono hA1.size)
  unfold rlV
  dsimp only
  go_wp2_with fail
  refine (roll_Of [(0, 3)] _ _ _ (rl1 3) 0 _ (hT.below ((hA2.alloc hA2.size _).alloc (hA2.alloc hA2.size _).size _) lT) (RF_lit1 _ _ 0 3 _ (by simp)) (by omega) ofR_one3.symm chC_one3.symm).mono ?_
  rintro e w3 ⟨rfl, hb3⟩
  have bR : Box w3 w2.heap.size 24 [.int .i64 (N : Int), .int .i64 tl, .int .i64 th, .int .i64 tz] := ((Box.newAt w2 24 [.int .i64 (N : Int), .int .i64 tl, .int .i64 th, .int .i64 tz] _ rfl).alloc _).below hb3 ((Box.newAt w2 24 [.int .i64 (N : Int), .int .i64 tl, .int .i64 th, .int .i64 tz] _ rfl).alloc _).lt
  have hA3 := ((hA2.alloc hA2.size _).alloc (hA2.alloc hA2.size _).size _).trans (hb3.mono ((hA2.alloc hA2.size _).alloc (hA2.alloc hA2.size _).size _).size)
  have hB3 := ((hb2.alloc hb2.size _).alloc (hb2.alloc hb2.size _).size _).trans (hb3.mono ((hb2.alloc hb2.size _).alloc (hb2.alloc hb2.size _).size _).size)
  have hR3 := (hR1.below hB3).more hB3.size
  obtain ⟨cR0, cR1, cR2, cR3⟩ := bR.cells4
  have lR := bR.lt
  have hs2 := hB3.size
  clear hb2 hb3 hT1 hT hR1 hA1 hA2 hB3
  have hN0 : ((N : Int) == 0) = false := by simp; omega
  unfold rlV rl1
  dsimp only
  go_wp2
  go_loopw [12, 13, 14] (fun a b i wr => ∃ (j : Nat) (L M : Bool), j ≤ N ∧ i = .int .i64 j ∧ a = .bool L ∧ b = .bool M ∧ Hid (L = true ↔ tl ∈ (valS S).take j) ∧ Hid (M = true ↔ th ∈ (valS S).take j) ∧ Below w3.heap.size w3 wr) (fun _ _ i _ => N - (intOf i).toNat)
  case atStart => exact ⟨0, false, false, Nat.zero_le _, rfl, rfl, rfl, by simp [Hid], by simp [Hid], (Below.refl _ _).alloc (Nat.le_refl _) _⟩
  case round =>
    obtain ⟨j, L, M, hj, rfl, rfl, rfl, HL, HMM, hbel⟩ := hrel
    have bR4 := bR.below hbel lR
    have hR4 := (hR3.below hbel).more hbel.size
    have hA4 := hA3.trans (hbel.mono hA3.size)
    clear cR0 cR1 cR2 cR3
    obtain ⟨cR0, cR1, cR2, cR3⟩ := bR4.cells4
    have lR4 := bR4.lt
    by_cases hlt : j < N
    · obtain ⟨b, o, x, y, hA, hbb, hcx, hcy, HX, _⟩ := hR4.val hlt
      injection hA with hA
      injection hA with hA1 hA2
      subst hA1 hA2
      rw [Nat.zero_add] at hcx hcy
      have hy := valS_at HX.out
      have hyb := HE.out.1 y (List.mem_of_getElem? hy)
      have HLN := Lib.hid (among_next hy HL.out)
      have HMN := Lib.hid (among_next hy HMM.out)
      clear hy
      cases L with
      | true =>
        cases M with
        | true =>
          go_wp2
          refine region_two [0, 1, 2, 3, 4, 5, 6, 7, 8, 9, 10, 11, 12, 13, 14, 15, 16, 17] [] (by kernel_rfl) (by kernel_rfl) ?_
          simp only [pick, List.map_cons, List.map_nil, List.getD_cons_zero, List.getD_cons_succ]
          go_wp2
          refine region_two [0, 1, 2, 3, 4, 5, 6, 7, 8, 9, 10, 11] [] (by kernel_rfl) (by kernel_rfl) ?_
          simp only [pick, List.map_cons, List.map_nil, List.getD_cons_zero, List.getD_cons_succ]
          go_wp2
          refine region_two [0, 1, 2, 3, 4, 5, 6, 7, 8, 9, 10, 11] [] (by kernel_rfl) (by kernel_rfl) ?_
          simp only [pick, List.map_cons, List.map_nil, List.getD_cons_zero, List.getD_cons_succ]
          go_wp2
          go_roundw
          case rel =>
            exact ⟨j + 1, true, true, by omega, by go_num, rfl, rfl, HLN.out, HMN.out, ((hbel.drewN 1).drewN 1).drewN 1⟩
          case measure => simp [intOf]; omega
        | false =>
          go_wp2
          refine region_two [0, 1, 2, 3, 4, 5, 6, 7, 8, 9, 10, 11, 12, 13, 14, 15, 16, 17] [] (by kernel_rfl) (by kernel_rfl) ?_
          simp only [pick, List.map_cons, List.map_nil, List.getD_cons_zero, List.getD_cons_succ]
          go_wp2
          refine region_two [0, 1, 2, 3, 4, 5, 6, 7, 8, 9, 10, 11] [] (by kernel_rfl) (by kernel_rfl) ?_
          simp only [pick, List.map_cons, List.map_nil, List.getD_cons_zero, List.getD_cons_succ]
          go_wp2
          refine region_two [0, 1, 2, 3, 4, 5, 6, 7, 8, 9, 10, 11] [] (by kernel_rfl) (by kernel_rfl) ?_
          simp only [pick, List.map_cons, List.map_nil, List.getD_cons_zero, List.getD_cons_succ]
          go_wp2
          go_roundw
          case rel =>
            exact ⟨j + 1, true, (y == th), by omega, by go_num, rfl, rfl, HLN.out, HMN.out, ((hbel.drewN 1).drewN 1).drewN 1⟩
          case measure => simp [intOf]; omega
      | false =>
        cases M with
        | true =>
          go_wp2
          refine region_two [0, 1, 2, 3, 4, 5, 6, 7, 8, 9, 10, 11, 12, 13, 14, 15, 16, 17] [] (by kernel_rfl) (by kernel_rfl) ?_
          simp only [pick, List.map_cons, List.map_nil, List.getD_cons_zero, List.getD_cons_succ]
          go_wp2
          refine region_two [0, 1, 2, 3, 4, 5, 6, 7, 8, 9, 10, 11] [] (by kernel_rfl) (by kernel_rfl) ?_
          simp only [pick, List.map_cons, List.map_nil, List.getD_cons_zero, List.getD_cons_succ]
          go_wp2
          refine region_two [0, 1, 2, 3, 4, 5, 6, 7, 8, 9, 10, 11] [] (by kernel_rfl) (by kernel_rfl) ?_
          simp only [pick, List.map_cons, List.map_nil, List.getD_cons_zero, List.getD_cons_succ]
          go_wp2
          go_roundw
          case rel =>
            exact ⟨j + 1, (y == tl), true, by omega, by go_num, rfl, rfl, HLN.out, HMN.out, ((hbel.drewN 1).drewN 1).drewN 1⟩
          case measure => simp [intOf]; omega
        | false =>
          go_wp2
          refine region_two [0, 1, 2, 3, 4, 5, 6, 7, 8, 9, 10, 11, 12, 13, 14, 15, 16, 17] [] (by kernel_rfl) (by kernel_rfl) ?_
          simp only [pick, List.map_cons, List.map_nil, List.getD_cons_zero, List.getD_cons_succ]
          go_wp2
          refine region_two [0, 1, 2, 3, 4, 5, 6, 7, 8, 9, 10, 11] [] (by kernel_rfl) (by kernel_rfl) ?_
          simp only [pick, List.map_cons, List.map_nil, List.getD_cons_zero, List.getD_cons_succ]
          go_wp2
          refine region_two [0, 1, 2, 3, 4, 5, 6, 7, 8, 9, 10, 11] [] (by kernel_rfl) (by kernel_rfl) ?_
          simp only [pick, List.map_cons, List.map_nil, List.getD_cons_zero, List.getD_cons_succ]
          go_wp2
          go_roundw
          case rel =>
            exact ⟨j + 1, (y == tl), (y == th), by omega, by go_num, rfl, rfl, HLN.out, HMN.out, ((hbel.drewN 1).drewN 1).drewN 1⟩
          case measure => simp [intOf]; omega
    · obtain rfl : j = N := by omega
      have hL : L = true := HL.out.2 (by rw [List.take_of_length_le (by rw [valS_len, HN.out]; omega)]; exact HE.out.2.1)
      have hM : M = true := HMM.out.2 (by rw [List.take_of_length_le (by rw [valS_len, HN.out]; omega)]; exact HE.out.2.2)
      subst hL hM
      obtain ⟨p, hp⟩ := Int.eq_ofNat_of_zero_le (Int.emod_nonneg x2 (b := (j : Int)) (by omega))
      have hpl : p < j := by
        have := Int.emod_lt_of_pos x2 (b := (j : Int)) (by omega)
        omega
      have HP := Lib.hid hp
      clear hp
      obtain ⟨b, o, x, y, hA, hbb, hcx, hcy, HX, _⟩ := hR4.val hpl
      injection hA with hA
      injection hA with hA1 hA2
      subst hA1 hA2
      rw [Nat.zero_add] at hcx hcy
      have hyb := HE.out.1 y (List.mem_of_getElem? (valS_at HX.out))
      have hm1 := HM.out.1
      have hm2 := HM.out.2
      go_wp2
      refine region_first [0, 1, 2, 3, 4, 5, 6, 7, 8, 9, 10, 11, 12, 13, 14, 15, 16, 17, 18, 19, 20, 25, 26] (.cons 21 (seq [22, 23, 24, 27, 28, 29] .nil)) (by kernel_rfl) (by kernel_rfl) ?_
      simp only [pick, List.map_cons, List.map_nil, List.getD_cons_zero, List.getD_cons_succ]
      go_wp2
      refine ord_call (by kernel_rfl) ?_
      simp only [pick, List.map_cons, List.map_nil, List.getD_cons_zero, List.getD_cons_succ]
      go_wp2_with fail
      refine (keep_Picked _ _ _ (by omega) (by omega)).mono ?_
      rintro e w' ⟨rfl, rfl⟩
      rw [HP.out]
      go_wp2
      refine ord_more [22, 23, 24, 27, 28, 29] .nil (by kernel_rfl) ?_
      simp only [pick, List.map_cons, List.map_nil, List.getD_cons_zero, List.getD_cons_succ]
      go_wp2
      refine ord_done ?_
      go_wp2
      go_ret
      exact ⟨rfl, hA4.drewN 1⟩

theorem own_RollBounds : ownKnob Tryd.prog.godebug = none := by kernel_rfl
theorem laid_RollBounds : laidOutB Tryd.prog = true := by kernel_rfl
set_option maxRecDepth 100000 in
theorem lifted_RollBounds (os : Os) (started : os.Started) (H : Type) (enc : TypeId × Value → H) :
    ReturnsInHanded {} Tryd.checked os 6 .any (fun w args => (Rows.rollBoundsSpec.pre enc Tryd.prog Tryd.f6 [] false w args ∧ laidMetH Tryd.prog laidL w) ∧ sizedMet enc Tryd.prog Tryd.f6 (OpenSpec.ofChange Rows.rollBoundsSpec) false w args)
      (Rows.rollBoundsSpec.post enc Tryd.prog Tryd.f6 false true false false) := by
  refine returnsInHanded_of_change_and (C := Tryd.checked) (X := fun w _ => laidMetH Tryd.prog laidL w) (fun _ _ _ hh h => h.of_heap hh) own_RollBounds started (by kernel_rfl) Tryd.func6
    (ChangeSpec.witness_shaped (enc := enc) (C := Tryd.checked) (os := os) (X := fun w _ => laidMetH Tryd.prog laidL w) false (World.doorLaid Tryd.prog 400 os) #[.slice none 0 0, .int .i64 0, .int .i64 0] 8 rfl (World.shaped_of_RefB (by kernel_rfl) (by kernel_rfl)) (by kernel_rfl) (by kernel_rfl) (by kernel_rfl) (door_met os _)) ?_
  intro W base args ds gs before hval0 hW hcnd hsz0 hL _
  have hsz : (DataW.weightsEach Tryd.prog (Tryd.f6.params.toList ++ Rows.rollBoundsSpec.plain.varTypes Tryd.prog) (ds ++ gs)).all (· ≤ reachBytes) = true := hsz0
  clear hsz0
  have hval : ∀ (j : Nat) t v, Tryd.f6.params[j]? = some t → args[j]? = some v → Value.okWide Tryd.prog W .any base t v := hval0
  have hW' := hW
  obtain ⟨p, q, hA0, hV, rfl, hfz, hnd⟩ := hW
  have hA : DataW.TrodAll enc Tryd.prog W 0 (fun _ => true) true Tryd.f6.params.toList args.toList ds p := hA0
  rw [Tryd.params6] at hA hval hsz
  obtain ⟨v0, vs0, d0, ds0, p0, q0, hargs, rfl, rfl, h0, r0⟩ := trodAll_cons hA
  obtain ⟨v1, vs1, d1, ds1, p1, q1, rfl, rfl, rfl, h1, r1⟩ := trodAll_cons r0
  obtain ⟨v2, vs2, d2, ds2, p2, q2, rfl, rfl, rfl, h2, r2⟩ := trodAll_cons r1
  obtain ⟨rfl, rfl, rfl⟩ := trodAll_nil r2
  obtain rfl : args = #[v0, v1, v2] := by cases args; simp_all
  obtain ⟨rfl, rfl⟩ := trodVars_none hV
  have k0 := h0
  have lt0 : ∀ x ∈ p0, x.block < W.heap.size := by obtain ⟨m, hm⟩ := k0; exact DataW.trod_lt m _ _ _ hm
  obtain ⟨a0, len0, cap0, rfl⟩ := okWide_slice Tryd.underlying34 (hval 0 34 v0 rfl rfl)
  obtain ⟨x0, ri0, rr0, lc0, hd0⟩ := open_RD Tryd.underlying34 Tryd.underlying55 (by kernel_rfl) Tryd.underlying3 (by kernel_rfl) Tryd.underlying4 (by kernel_rfl) (by kernel_rfl) h0
  have bd0 : len0 ≤ 5864062014805 := by
    rcases hd0 with ⟨h, _⟩ | ⟨el, sp, hd, hl⟩
    · omega
    · subst hd
      have := sized_slice hsz (j := 0) (t := 34) (e := 55) rfl rfl Tryd.underlying34
      rw [show Tryd.prog.bytesOf 55 = 24 by kernel_rfl] at this
      simp only [reachBytes] at this
      omega
  have k1 := h1
  have lt1 : ∀ x ∈ p1, x.block < W.heap.size := by obtain ⟨m, hm⟩ := k1; exact DataW.trod_lt m _ _ _ hm
  obtain ⟨x1, rfl, rfl, rfl, wx1⟩ := open_int Tryd.underlying3 (hval 1 3 v1 rfl rfl) h1
  have rr1 := bounds_i64 wx1
  have k2 := h2
  have lt2 : ∀ x ∈ p2, x.block < W.heap.size := by obtain ⟨m, hm⟩ := k2; exact DataW.trod_lt m _ _ _ hm
  obtain ⟨x2, rfl, rfl, rfl, wx2⟩ := open_int Tryd.underlying3 (hval 2 3 v2 rfl rfl) h2
  have rr2 := bounds_i64 wx2
  clear hA0 hval0 hsz
  refine (keep_RollBounds W (of_laid hL) a0 len0 cap0 x0 ri0 bd0 rr0 lc0 x1 rr1 x2 rr2).mono fun e W' ⟨he, bel⟩ => ?_
  subst he
  exact ⟨_, rfl, _, _, _, [], _, [], hW', trodAll_mk1 (shut_bool Tryd.underlying4 _), (trodAll_cons_mk (Below.trod laid_RollBounds (by kernel_rfl) (of_decide_eq_true (by kernel_rfl)) k0 bel lt0) (trodAll_cons_mk (Below.trod laid_RollBounds (by kernel_rfl) (of_decide_eq_true (by kernel_rfl)) k1 bel lt1) (trodAll_cons_mk (Below.trod laid_RollBounds (by kernel_rfl) (of_decide_eq_true (by kernel_rfl)) k2 bel lt2) trodAll_mk0))), rfl, bel.frame _, fun h => by cases h⟩

theorem rollBounds_holds : Rows.RollBoundsSaid :=
  OpenClaim.holds_of_wide 6 Tryd.f6 rfl rfl rfl rfl rfl rfl rfl ⟨rfl, rfl, rfl, rfl, rfl⟩ rfl rfl rfl rfl rfl (by kernel_rfl) Tryd.func6 (by kernel_rfl)
    (of_decide_eq_true (by kernel_rfl)) (by unfold Func.isWrapper; first | (rw [if_pos (by decide +kernel)]; kernel_rfl) | (rw [if_neg (by decide +kernel)]; exact ⟨rfl, rfl⟩))
    (fun os started H enc _ => lifted_RollBounds os started H enc)

theorem rollBounds_card : Rows.RollBoundsCardSaid :=
  Claim7.holds_tied_plain_at .later [] [.data] true (true, "916d3032eb380c977195be34e2d04779bbe8d94be5391d87ea0a9ae7f4c67b21") false
    rollBounds_holds (fun _ h => by cases h) (by kernel_rfl) (fun _ h => by cases h) rollBounds_row_tie rfl ⟨rfl, rfl⟩ (by kernel_rfl) rfl
    (fun f fn hf hfn => by
      obtain rfl : f = 6 := Option.some.inj ((show Tryd.prog.funcNamed "barograph/barographkeep.RollBounds" = some 6 by kernel_rfl).symm.trans hf) |>.symm
      obtain rfl : fn = Tryd.f6 := (Option.some.inj (Tryd.func6.symm.trans hfn)).symm
      exact ⟨by kernel_rfl, fun j t ht => by
        rw [Tryd.params6] at ht
        have hm : t ∈ [34, 3, 3] := by simpa using Array.mem_of_getElem? ht
        have hall : ([34, 3, 3].all fun u => !Tryd.prog.wantsStandIn u) = true := by kernel_rfl
        exact (show Tryd.prog.wantsStandIn t = false by simpa using List.all_eq_true.1 hall t hm)⟩)
    (by kernel_rfl)
#print axioms rollBounds_card
end Go.Proofs.YtnpabbinckcbaaaDoor
