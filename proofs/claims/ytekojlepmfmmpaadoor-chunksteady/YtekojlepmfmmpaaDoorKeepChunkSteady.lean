/- Regular samples with a constant value take two bits each behind the first two, at every argument: the statement's call returns true, and leaves what was there as it was. No condition but that the table of prefixes holds what the program's text lays (the card ties it). -/
import Derived.Test.YtekojlepmfmmpaaDoorChunk2
import Derived.Test.YtekojlepmfmmpaaDoorChunk4
import Derived.Test.YtekojlepmfmmpaaDoorChunkKeepPure
import Derived.Test.YtekojlepmfmmpaaDoorKeepPicked
import Derived.Test.YtekojlepmfmmpaaDoorOpen
set_option linter.unusedSimpArgs false
set_option linter.unusedVariables false
namespace Go.Proofs.YtekojlepmfmmpaaDoor
open Go.ChangeShapes Go.WideShapes Go.ChangeAt Go.RowKit Go.Ord Go.Baro

set_option maxRecDepth 100000 in
set_option maxHeartbeats 2000000 in
theorem keep_ChunkSteady (w : World) (hT : Tab w) (first : Int) (r0 : -9223372036854775808 ≤ first ∧ first ≤ 9223372036854775807) (step : Int) (r1 : -9223372036854775808 ≤ step ∧ step ≤ 9223372036854775807)
    (value : Int) (r2 : -9223372036854775808 ≤ value ∧ value ≤ 9223372036854775807) (num : Int) (r3 : -9223372036854775808 ≤ num ∧ num ≤ 9223372036854775807) :
    Calls Tryd.prog 7 #[.int .i64 first, .int .i64 step, .int .i64 value, .int .i64 num] w fun e w' => e = .returned (.bool true) ∧ Below w.heap.size w w' := by
  have hlt := hT.lt
  have hc0 := Int.emod_nonneg num (show (121 : Int) ≠ 0 by decide)
  have hc1 := Int.emod_lt_of_pos num (show (0 : Int) < 121 by decide)
  have hd0 := Int.emod_nonneg step (show (1099511627776 : Int) ≠ 0 by decide)
  have hd1 := Int.emod_lt_of_pos step (show (0 : Int) < 1099511627776 by decide)
  go_enter Tryd.func7, Tryd.ntmps7
  go_wp2_with fail
  refine (keep_Picked num 121 _ (by decide) (by decide)).mono ?_
  rintro e w' ⟨rfl, rfl⟩
  go_wp2_with fail
  refine (keep_Picked step 1099511627776 _ (by decide) (by decide)).mono ?_
  rintro e w' ⟨rfl, rfl⟩
  go_wp2
  have hv : InR (value / 512) := by unfold InR; omega
  have ht0 : -18014398509481984 ≤ first / 512 ∧ first / 512 < 18014398509481984 := by omega
  have hdd : 1 ≤ 1 + step % 1099511627776 ∧ 1 + step % 1099511627776 ≤ 1099511627776 := by omega
  clear hd0 hd1
  generalize 1 + step % 1099511627776 = d at *
  generalize first / 512 = t0 at *
  generalize num % 121 = C at *
  obtain ⟨C, rfl⟩ := Int.eq_ofNat_of_zero_le hc0
  obtain ⟨hd0, hd1⟩ := hdd
  clear r0 r1 r3 hc0
  go_loopw [10, 12, 13] (fun t v i wr => ∃ (j : Nat) (T : Int), j ≤ C ∧ i = .int .i64 j ∧ t = .int .i64 T ∧ Hid (T = t0 + j * d) ∧ -18014398509481984 ≤ T ∧ T ≤ 18015498021109760 ∧ Hid (∀ i : Nat, i < j → t0 + i * d ≤ 18014398509481984) ∧
      wr.ownsRow w.heap.size 39 2 v j (cellsF (stL t0 d (value / 512) j)) ∧ Below w.heap.size w wr) (fun _ _ i _ => C - (intOf i).toNat)
  case atStart => exact ⟨0, t0, Nat.zero_le _, rfl, rfl, by show _ = _; simp, ht0.1, by omega, fun i hi => by omega, World.ownsRow_nil _ _ _ _, Below.refl _ _⟩
  case round =>
    obtain ⟨j, T, hj, rfl, rfl, HTT, hT1, hT2, HI, hown, hbel⟩ := hrel
    have hsz := hbel.size
    by_cases hlt2 : j < C
    · by_cases hbr : 18014398509481984 < T
      · have HST := Lib.hid (steady (t := t0) (d := d) (v := value / 512) (k := j) (by omega) hd0 hv (by omega) (fun i hi => by have := HI.out i hi; omega))
        have HSL := Lib.hid (stL_len d (value / 512) j t0)
        rcases hown.2 with ⟨rfl, rfl⟩ | ⟨g, cap, cur, rfl, hg1, _, hcap, _⟩
        · go_wp2_with fail
          refine (chunk_Encode [] none 0 0 _ (hT.below hbel hlt) (RF.nil _ _ _) (by omega)).mono ?_
          rintro e w1 ⟨v1, rfl, hown1, hb1⟩
          have hbel1 : Below w.heap.size w w1 := hbel.trans (hb1.mono hbel.size)
          rw [show chC [] = 0 from rfl, show chY [] = [0] from rfl] at *
          obtain ⟨B1, c1, rfl, hc1⟩ := own_form hown1
          go_wp2_with fail
          refine (chunk_Encode [] none 0 0 _ (hT.below hbel1 hlt) (RF.nil _ _ _) (by omega)).mono ?_
          rintro e w2 ⟨v2, rfl, hown2, hb2⟩
          have hbel2 : Below w.heap.size w w2 := hbel1.trans (hb2.mono hbel1.size)
          rw [show chC [] = 0 from rfl, show chY [] = [0] from rfl] at *
          obtain ⟨B2, c2, rfl, hc2⟩ := own_form hown2
          go_wp2
          go_ret
          exact ⟨rfl, hbel2⟩
        · have hrf : RF wr wr.heap.size (some ⟨g, 0, none⟩) j (stL t0 d (value / 512) j) := Rd.of_own hown
          go_wp2_with fail
          refine (chunk_Encode (stL t0 d (value / 512) j) _ j cap _ (hT.below hbel hlt) hrf (by omega)).mono ?_
          rintro e w1 ⟨v1, rfl, hown1, hb1⟩
          have hbel1 : Below w.heap.size w w1 := hbel.trans (hb1.mono hbel.size)
          have hrf1 := (hrf.below hb1).more hb1.size
          obtain ⟨N1, hown1, hN1⟩ := own_count hown1
          have HN1 := Lib.hid hN1
          clear hN1
          obtain ⟨B1, c1, rfl, hc1⟩ := own_form hown1
          rw [HST.out.1]
          by_cases h2 : 2 ≤ j
          · have hrf2 : RF w1 w1.heap.size (some ⟨g, 0, none⟩) 2 ((stL t0 d (value / 512) j).take 2) := by
              have h3 := hrf1
              rw [← List.take_append_drop 2 (stL t0 d (value / 512) j)] at h3
              have h4 := RF.fst h3
              rw [show ((stL t0 d (value / 512) j).take 2).length = 2 by rw [List.length_take, HSL.out]; omega] at h4
              exact h4
            go_wp2_with fail
            refine (chunk_Encode ((stL t0 d (value / 512) j).take 2) _ 2 cap _ (hT.below hbel1 hlt) hrf2 (by omega)).mono ?_
            rintro e w2 ⟨v2, rfl, hown2, hb2⟩
            have hbel2 : Below w.heap.size w w2 := hbel1.trans (hb2.mono hbel1.size)
            obtain ⟨N2, hown2, hN2⟩ := own_count hown2
            obtain ⟨B2, c2, rfl, hc2⟩ := own_form hown2
            rw [HST.out.2.1]
            have hst := HST.out.2.2
            rw [← HN1.out, ← hN2] at hst
            clear hN2
            obtain ⟨hs1, hs2, hs3⟩ := hst
            go_wp2
            all_goals go_ret
            all_goals exact ⟨ret_bool (decide_eq_true (by omega)), hbel2⟩
          · have hrf2 : RF w1 w1.heap.size (some ⟨g, 0, none⟩) j ((stL t0 d (value / 512) j).take 2) := by
              rw [List.take_of_length_le (by rw [HSL.out]; omega)]
              exact hrf1
            go_wp2_with fail
            refine (chunk_Encode ((stL t0 d (value / 512) j).take 2) _ j cap _ (hT.below hbel1 hlt) hrf2 (by omega)).mono ?_
            rintro e w2 ⟨v2, rfl, hown2, hb2⟩
            have hbel2 : Below w.heap.size w w2 := hbel1.trans (hb2.mono hbel1.size)
            obtain ⟨N2, hown2, hN2⟩ := own_count hown2
            obtain ⟨B2, c2, rfl, hc2⟩ := own_form hown2
            rw [HST.out.2.1]
            have hst := HST.out.2.2
            rw [← HN1.out, ← hN2] at hst
            clear hN2
            obtain ⟨hs1, hs2, hs3⟩ := hst
            go_wp2
            all_goals go_ret
            all_goals exact ⟨ret_bool (decide_eq_true (by omega)), hbel2⟩
      · go_wp2_with (at_builtin; go_must (refine app_lit eltSample _ rfl _ _ rfl w.heap.size _ _ _ rfl (by exact hown) 1 [_, _] _ rfl rfl rfl (one2 _ _ _ _) (by omega) (by omega) (by omega) ?_); intro v3 w3 hown3 hgr3 hbel3 _)
        go_roundw
        case rel =>
          refine ⟨j + 1, T + d, by omega, by go_num, rfl, ?_, by omega, by omega, ?_, ?_, hbel3 _ hbel⟩
          · show _ = _
            rw [HTT.out, Int.natCast_add, Int.add_mul, Int.natCast_one, Int.one_mul]
            omega
          · intro i hi
            rcases (by omega : i < j ∨ i = j) with h | rfl
            · exact HI.out i h
            · rw [← HTT.out]; omega
          · rw [stL_snoc, cellsF_append, ← HTT.out]
            exact hown3
        case measure => simp [intOf]; omega
    · obtain rfl : j = C := by omega
      have HST := Lib.hid (steady (t := t0) (d := d) (v := value / 512) (k := j) (by omega) hd0 hv (by omega) (fun i hi => by have := HI.out i hi; omega))
      have HSL := Lib.hid (stL_len d (value / 512) j t0)
      rcases hown.2 with ⟨rfl, rfl⟩ | ⟨g, cap, cur, rfl, hg1, _, hcap, _⟩
      · go_wp2_with fail
        refine (chunk_Encode [] none 0 0 _ (hT.below hbel hlt) (RF.nil _ _ _) (by omega)).mono ?_
        rintro e w1 ⟨v1, rfl, hown1, hb1⟩
        have hbel1 : Below w.heap.size w w1 := hbel.trans (hb1.mono hbel.size)
        rw [show chC [] = 0 from rfl, show chY [] = [0] from rfl] at *
        obtain ⟨B1, c1, rfl, hc1⟩ := own_form hown1
        go_wp2_with fail
        refine (chunk_Encode [] none 0 0 _ (hT.below hbel1 hlt) (RF.nil _ _ _) (by omega)).mono ?_
        rintro e w2 ⟨v2, rfl, hown2, hb2⟩
        have hbel2 : Below w.heap.size w w2 := hbel1.trans (hb2.mono hbel1.size)
        rw [show chC [] = 0 from rfl, show chY [] = [0] from rfl] at *
        obtain ⟨B2, c2, rfl, hc2⟩ := own_form hown2
        go_wp2
        go_ret
        exact ⟨rfl, hbel2⟩
      · have hrf : RF wr wr.heap.size (some ⟨g, 0, none⟩) j (stL t0 d (value / 512) j) := Rd.of_own hown
        go_wp2_with fail
        refine (chunk_Encode (stL t0 d (value / 512) j) _ j cap _ (hT.below hbel hlt) hrf (by omega)).mono ?_
        rintro e w1 ⟨v1, rfl, hown1, hb1⟩
        have hbel1 : Below w.heap.size w w1 := hbel.trans (hb1.mono hbel.size)
        have hrf1 := (hrf.below hb1).more hb1.size
        obtain ⟨N1, hown1, hN1⟩ := own_count hown1
        have HN1 := Lib.hid hN1
        clear hN1
        obtain ⟨B1, c1, rfl, hc1⟩ := own_form hown1
        rw [HST.out.1]
        by_cases h2 : 2 ≤ j
        · have hrf2 : RF w1 w1.heap.size (some ⟨g, 0, none⟩) 2 ((stL t0 d (value / 512) j).take 2) := by
            have h3 := hrf1
            rw [← List.take_append_drop 2 (stL t0 d (value / 512) j)] at h3
            have h4 := RF.fst h3
            rw [show ((stL t0 d (value / 512) j).take 2).length = 2 by rw [List.length_take, HSL.out]; omega] at h4
            exact h4
          go_wp2_with fail
          refine (chunk_Encode ((stL t0 d (value / 512) j).take 2) _ 2 cap _ (hT.below hbel1 hlt) hrf2 (by omega)).mono ?_
          rintro e w2 ⟨v2, rfl, hown2, hb2⟩
          have hbel2 : Below w.heap.size w w2 := hbel1.trans (hb2.mono hbel1.size)
          obtain ⟨N2, hown2, hN2⟩ := own_count hown2
          obtain ⟨B2, c2, rfl, hc2⟩ := own_form hown2
          rw [HST.out.2.1]
          have hst := HST.out.2.2
          rw [← HN1.out, ← hN2] at hst
          clear hN2
          obtain ⟨hs1, hs2, hs3⟩ := hst
          go_wp2
          all_goals go_ret
          all_goals exact ⟨ret_bool (decide_eq_true (by omega)), hbel2⟩
        · have hrf2 : RF w1 w1.heap.size (some ⟨g, 0, none⟩) j ((stL t0 d (value / 512) j).take 2) := by
            rw [List.take_of_length_le (by rw [HSL.out]; omega)]
            exact hrf1
          go_wp2_with fail
          refine (chunk_Encode ((stL t0 d (value / 512) j).take 2) _ j cap _ (hT.below hbel1 hlt) hrf2 (by omega)).mono ?_
          rintro e w2 ⟨v2, rfl, hown2, hb2⟩
          have hbel2 : Below w.heap.size w w2 := hbel1.trans (hb2.mono hbel1.size)
          obtain ⟨N2, hown2, hN2⟩ := own_count hown2
          obtain ⟨B2, c2, rfl, hc2⟩ := own_form hown2
          rw [HST.out.2.1]
          have hst := HST.out.2.2
          rw [← HN1.out, ← hN2] at hst
          clear hN2
          obtain ⟨hs1, hs2, hs3⟩ := hst
          go_wp2
          all_goals go_ret
          all_goals exact ⟨ret_bool (decide_eq_true (by omega)), hbel2⟩

theorem own_ChunkSteady : ownKnob Tryd.prog.godebug = none := by kernel_rfl
theorem laid_ChunkSteady : laidOutB Tryd.prog = true := by kernel_rfl
set_option maxRecDepth 100000 in
theorem lifted_ChunkSteady (os : Os) (started : os.Started) (H : Type) (enc : TypeId × Value → H) :
    ReturnsInHanded {} Tryd.checked os 7 .any (fun w args => (Rows.chunkSteadySpec.pre enc Tryd.prog Tryd.f7 [] false w args ∧ laidMetH Tryd.prog laidL w) ∧ sizedMet enc Tryd.prog Tryd.f7 (OpenSpec.ofChange Rows.chunkSteadySpec) false w args)
      (Rows.chunkSteadySpec.post enc Tryd.prog Tryd.f7 false true false false) := by
  refine returnsInHanded_of_change_and (C := Tryd.checked) (X := fun w _ => laidMetH Tryd.prog laidL w) (fun _ _ _ hh h => h.of_heap hh) own_ChunkSteady started (by kernel_rfl) Tryd.func7
    (ChangeSpec.witness_shaped (enc := enc) (C := Tryd.checked) (os := os) (X := fun w _ => laidMetH Tryd.prog laidL w) false (World.doorLaid Tryd.prog 400 os) #[.int .i64 0, .int .i64 0, .int .i64 0, .int .i64 0] 8 rfl (World.shaped_of_RefB (by kernel_rfl) (by kernel_rfl)) (by kernel_rfl) (by kernel_rfl) (by kernel_rfl) (door_met os _)) ?_
  intro W base args ds gs before hval0 hW hcnd hsz0 hL _
  have hsz : (DataW.weightsEach Tryd.prog (Tryd.f7.params.toList ++ Rows.chunkSteadySpec.plain.varTypes Tryd.prog) (ds ++ gs)).all (· ≤ reachBytes) = true := hsz0
  clear hsz0
  have hval : ∀ (j : Nat) t v, Tryd.f7.params[j]? = some t → args[j]? = some v → Value.okWide Tryd.prog W .any base t v := hval0
  have hW' := hW
  obtain ⟨p, q, hA0, hV, rfl, hfz, hnd⟩ := hW
  have hA : DataW.TrodAll enc Tryd.prog W 0 (fun _ => true) true Tryd.f7.params.toList args.toList ds p := hA0
  rw [Tryd.params7] at hA hval hsz
  obtain ⟨v0, vs0, d0, ds0, p0, q0, hargs, rfl, rfl, h0, r0⟩ := trodAll_cons hA
  obtain ⟨v1, vs1, d1, ds1, p1, q1, rfl, rfl, rfl, h1, r1⟩ := trodAll_cons r0
  obtain ⟨v2, vs2, d2, ds2, p2, q2, rfl, rfl, rfl, h2, r2⟩ := trodAll_cons r1
  obtain ⟨v3, vs3, d3, ds3, p3, q3, rfl, rfl, rfl, h3, r3⟩ := trodAll_cons r2
  obtain ⟨rfl, rfl, rfl⟩ := trodAll_nil r3
  obtain rfl : args = #[v0, v1, v2, v3] := by cases args; simp_all
  obtain ⟨rfl, rfl⟩ := trodVars_none hV
  have k0 := h0
  have lt0 : ∀ x ∈ p0, x.block < W.heap.size := by obtain ⟨m, hm⟩ := k0; exact DataW.trod_lt m _ _ _ hm
  obtain ⟨x0, rfl, rfl, rfl, wx0⟩ := open_int Tryd.underlying3 (hval 0 3 v0 rfl rfl) h0
  have rr0 := bounds_i64 wx0
  have k1 := h1
  have lt1 : ∀ x ∈ p1, x.block < W.heap.size := by obtain ⟨m, hm⟩ := k1; exact DataW.trod_lt m _ _ _ hm
  obtain ⟨x1, rfl, rfl, rfl, wx1⟩ := open_int Tryd.underlying3 (hval 1 3 v1 rfl rfl) h1
  have rr1 := bounds_i64 wx1
  have k2 := h2
  have lt2 : ∀ x ∈ p2, x.block < W.heap.size := by obtain ⟨m, hm⟩ := k2; exact DataW.trod_lt m _ _ _ hm
  obtain ⟨x2, rfl, rfl, rfl, wx2⟩ := open_int Tryd.underlying3 (hval 2 3 v2 rfl rfl) h2
  have rr2 := bounds_i64 wx2
  have k3 := h3
  have lt3 : ∀ x ∈ p3, x.block < W.heap.size := by obtain ⟨m, hm⟩ := k3; exact DataW.trod_lt m _ _ _ hm
  obtain ⟨x3, rfl, rfl, rfl, wx3⟩ := open_int Tryd.underlying3 (hval 3 3 v3 rfl rfl) h3
  have rr3 := bounds_i64 wx3
  clear hA0 hval0 hsz
  refine (keep_ChunkSteady W (of_laid hL) x0 rr0 x1 rr1 x2 rr2 x3 rr3).mono fun e W' ⟨he, bel⟩ => ?_
  subst he
  exact ⟨_, rfl, _, _, _, [], _, [], hW', trodAll_mk1 (shut_bool Tryd.underlying4 _), (trodAll_cons_mk (Below.trod laid_ChunkSteady (by kernel_rfl) (of_decide_eq_true (by kernel_rfl)) k0 bel lt0) (trodAll_cons_mk (Below.trod laid_ChunkSteady (by kernel_rfl) (of_decide_eq_true (by kernel_rfl)) k1 bel lt1) (trodAll_cons_mk (Below.trod laid_ChunkSteady (by kernel_rfl) (of_decide_eq_true (by kernel_rfl)) k2 bel lt2) (trodAll_cons_mk (Below.trod laid_ChunkSteady (by kernel_rfl) (of_decide_eq_true (by kernel_rfl)) k3 bel lt3) trodAll_mk0)))), rfl, bel.frame _, fun h => by cases h⟩

theorem chunkSteady_holds : Rows.ChunkSteadySaid :=
  OpenClaim.holds_of_wide 7 Tryd.f7 rfl rfl rfl rfl rfl rfl rfl ⟨rfl, rfl, rfl, rfl, rfl⟩ rfl rfl rfl rfl rfl (by kernel_rfl) Tryd.func7 (by kernel_rfl)
    (of_decide_eq_true (by kernel_rfl)) (by unfold Func.isWrapper; first | (rw [if_pos (by decide +kernel)]; kernel_rfl) | (rw [if_neg (by decide +kernel)]; exact ⟨rfl, rfl⟩))
    (fun os started H enc _ => lifted_ChunkSteady os started H enc)

theorem chunkSteady_card : Rows.ChunkSteadyCardSaid :=
  Claim7.holds_tied_plain_at .later [] [.data] true (true, "647f6ad127482e82e3c44b34736b70cb98d6497e58771133334d9f52a4931661") false
    chunkSteady_holds (fun _ h => by cases h) (by kernel_rfl) (fun _ h => by cases h) chunkSteady_row_tie rfl ⟨rfl, rfl⟩ (by kernel_rfl) rfl
    (fun f fn hf hfn => by
      obtain rfl : f = 7 := Option.some.inj ((show Tryd.prog.funcNamed "barograph/barographkeep.ChunkSteady" = some 7 by kernel_rfl).symm.trans hf) |>.symm
      obtain rfl : fn = Tryd.f7 := (Option.some.inj (Tryd.func7.symm.trans hfn)).symm
      exact ⟨by kernel_rfl, fun j t ht => by
        rw [Tryd.params7] at ht
        have hm : t ∈ [3, 3, 3, 3] := by simpa using Array.mem_of_getElem? ht
        have hall : ([3, 3, 3, 3].all fun u => !Tryd.prog.wantsStandIn u) = true := by kernel_rfl
        exact (show Tryd.prog.wantsStandIn t = false by simpa using List.all_eq_true.1 hall t hm)⟩)
    (by kernel_rfl)
#print axioms chunkSteady_card
end Go.Proofs.YtekojlepmfmmpaaDoor
