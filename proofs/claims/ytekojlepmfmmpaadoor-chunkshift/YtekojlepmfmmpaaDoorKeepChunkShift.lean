/- Samples that are all as much later take as much room but for the first one's code, at every argument: the statement's call returns true, and leaves what was there as it was. No condition but that each slice takes at most 2^47 bytes and that the table of prefixes holds what the program's text lays (the card ties it). -/
import Derived.Test.YtekojlepmfmmpaaDoorChunk2
import Derived.Test.YtekojlepmfmmpaaDoorKeepSamples
import Derived.Test.YtekojlepmfmmpaaDoorSameSamplesK
set_option linter.unusedSimpArgs false
set_option linter.unusedVariables false
namespace Go.Proofs.YtekojlepmfmmpaaDoor
open Go.ChangeShapes Go.WideShapes Go.ChangeAt Go.RowKit Go.Ord Go.Baro

theorem shL_snoc {S : List (Int × Int)} {d : Int} {j : Nat} {x y : Int} (h : S[j]? = some (x, y)) : shL d (S.take (j + 1)) = shL d (S.take j) ++ [(x + d, y)] := by
  rw [at_take h]
  simp [shL]

set_option maxRecDepth 100000 in
set_option maxHeartbeats 2000000 in
theorem keep_ChunkShift (w : World) (hT : Tab w) (A0 : Option Addr) (n0 c0 : Nat) (l : List (Int × Int × Bool)) (hd : RD w w.heap.size A0 n0 l) (hn0 : n0 ≤ 5864062014805) (hr0 : ∀ f ∈ l, (-9223372036854775808 ≤ f.1 ∧ f.1 ≤ 9223372036854775807) ∧ -9223372036854775808 ≤ f.2.1 ∧ f.2.1 ≤ 9223372036854775807) (_ : n0 ≤ c0)
    (first : Int) (r1 : -9223372036854775808 ≤ first ∧ first ≤ 9223372036854775807) (by0 : Int) (r2 : -9223372036854775808 ≤ by0 ∧ by0 ≤ 9223372036854775807) :
    Calls Tryd.prog 8 #[.slice A0 n0 c0, .int .i64 first, .int .i64 by0] w fun e w' => e = .returned (.bool true) ∧ Below w.heap.size w w' := by
  have hlt := hT.lt
  have HR0 := Lib.hid hr0
  clear hr0
  have hd1 := Int.emod_nonneg by0 (show (9007199254740992 : Int) ≠ 0 by decide)
  have hd2 := Int.emod_lt_of_pos by0 (show (0 : Int) < 9007199254740992 by decide)
  go_enter Tryd.func8, Tryd.ntmps8
  go_wp2_with fail
  refine (keep_Samples l A0 n0 c0 first 60 w hd hn0 HR0.out r1 (by decide)).mono ?_
  rintro e w1 ⟨v1, S, rfl, HS, hSl, hown1, hbel1⟩
  go_wp2_with fail
  refine (keep_Picked by0 9007199254740992 _ (by decide) (by decide)).mono ?_
  rintro e w' ⟨rfl, rfl⟩
  generalize by0 % 9007199254740992 = d at *
  have HSH := Lib.hid (shifted HS.out (by omega) hd1 hd2)
  have HSR := Lib.hid HS.out.2
  have HVR := Lib.hid (ckL_range HS.out.1)
  obtain ⟨n, hown1, hn⟩ := own_count hown1
  have HN := Lib.hid hn
  rw [← hn] at hSl
  clear hn
  obtain ⟨B1, c1, rfl, hc1⟩ := own_form hown1
  have hrf1 : RF w1 w1.heap.size B1 n S := Rd.of_own hown1
  clear hown1
  go_wp2
  go_loopw [9, 10] (fun v i wr => ∃ j : Nat, j ≤ n ∧ i = .int .i64 j ∧ wr.ownsRow w1.heap.size 39 2 v j (cellsF (shL d (S.take j))) ∧ Below w1.heap.size w1 wr) (fun _ i _ => n - (intOf i).toNat)
  case atStart => exact ⟨0, Nat.zero_le _, rfl, World.ownsRow_nil _ _ _ _, Below.refl _ _⟩
  case round =>
    obtain ⟨j, hj, rfl, hown, hbel⟩ := hrel
    have hsz := hbel.size
    by_cases hlt2 : j < n
    · obtain ⟨b, o, x, y, rfl, hbb, hcx, hcy, HX, hmem⟩ := (hrf1.below hbel).val hlt2
      have hx := HSR.out _ hmem
      dsimp only at hx
      go_wp2
      refine region_two [0, 1, 2, 3, 4, 5, 6, 7, 8, 9, 10, 11, 12, 13] [14, 15, 16] (by kernel_rfl) (by kernel_rfl) ?_
      simp only [pick, List.map_cons, List.map_nil, List.getD_cons_zero, List.getD_cons_succ]
      go_wp2_with (at_builtin; go_must (refine app_litd eltSample _ rfl _ _ rfl w1.heap.size _ _ _ rfl (by exact hown) 1 [_, _] _ rfl rfl rfl (one2 _ _ _ _) (by omega) (by omega) (by omega) ?_); intro v3 w3 hown3 hgr3 hbel3 _)
      go_roundw
      case rel =>
        refine ⟨j + 1, by omega, by go_num, ?_, hbel3 _ hbel⟩
        rw [shL_snoc HX.out, cellsF_append]
        exact hown3
      case measure => simp [intOf]; omega
    · obtain rfl : j = n := by omega
      have hall : S.take j = S := List.take_of_length_le (by rw [← HN.out]; omega)
      rw [hall] at hown
      obtain ⟨B2, c2, rfl, hc2⟩ := own_form hown
      have hrf : RF wr wr.heap.size B1 j S := (hrf1.below hbel).more hsz
      have hbelW : Below w.heap.size w wr := hbel1.trans (hbel.mono hbel1.size)
      go_wp2_with fail
      refine (chunk_Encode S B1 j c1 _ (hT.below hbelW hlt) hrf (by omega)).mono ?_
      rintro e w3 ⟨v3, rfl, hown3, hb3⟩
      rw [HSH.out.1]
      have hbel3 : Below w.heap.size w w3 := hbelW.trans (hb3.mono hbelW.size)
      have hownL3 := own_below hown hb3
      obtain ⟨N1, hown3, hN1⟩ := own_count hown3
      have HN1 := Lib.hid hN1
      clear hN1
      obtain ⟨B3, c3, rfl, hc3⟩ := own_form hown3
      have hrfL : RF w3 w3.heap.size B2 j (shL d S) := Rd.of_own hownL3
      go_wp2_with fail
      refine (chunk_Encode (shL d S) B2 j c2 _ (hT.below hbel3 hlt) hrfL (by omega)).mono ?_
      rintro e w4 ⟨v4, rfl, hown4, hb4⟩
      rw [HSH.out.2.1]
      have hbel4 : Below w.heap.size w w4 := hbel3.trans (hb4.mono hbel3.size)
      have hownL4 := own_below hownL3 hb4
      have hY4 := chY_length (shL d S)
      obtain ⟨N2, hown4, hN2⟩ := own_count hown4
      have HN2 := Lib.hid hN2
      rw [← hN2] at hY4
      clear hN2
      obtain ⟨B4, c4, rfl, hc4⟩ := own_form hown4
      have hri4 : RI w4 w4.heap.size .u8 B4 N2 (chY (shL d S)) := Rd.of_own hown4
      have HBK := Lib.hid (chunk_back HSH.out.2.1)
      go_wp2_with fail
      refine (chunk_Decode (chY (shL d S)) B4 N2 c4 _ (hT.below hbel4 hlt) hri4 (chY_range _) (by omega) hc4).mono ?_
      rintro e w5 ⟨v5, rfl, hown5, hb5⟩
      rw [HBK.out] at hown5 ⊢
      dsimp only at hown5 ⊢
      have hbel5 : Below w.heap.size w w5 := hbel4.trans (hb5.mono hbel4.size)
      have hownL5 := own_below hownL4 hb5
      rw [shL_len, ← HN.out] at hown5
      obtain ⟨B5, c5, rfl, hc5⟩ := own_form hown5
      have hrf5 : RF w5 w5.heap.size B5 j (shL d S) := Rd.of_own hown5
      have hrfL5 : RF w5 w5.heap.size B2 j (shL d S) := Rd.of_own hownL5
      go_wp2_with fail
      refine (keep_sameSamples (shL d S) (shL d S) _ _ _ _ _ _ _ _ _ true hrf5 hrfL5 (by simp) (by omega) (by omega)).mono ?_
      rintro e w6 ⟨rfl, m6, rfl⟩
      obtain ⟨_, _, hs1, hs2, hs3⟩ := HSH.out
      rw [← HN1.out] at hs1
      rw [← HN1.out, ← HN2.out] at hs2 hs3
      have hN1b : N1 ≤ 3008 := by omega
      go_wp2
      go_ret
      exact ⟨ret_bool (decide_eq_true (by omega)), hbel5.drewN m6⟩

theorem own_ChunkShift : ownKnob Tryd.prog.godebug = none := by kernel_rfl
theorem laid_ChunkShift : laidOutB Tryd.prog = true := by kernel_rfl
set_option maxRecDepth 100000 in
theorem lifted_ChunkShift (os : Os) (started : os.Started) (H : Type) (enc : TypeId × Value → H) :
    ReturnsInHanded {} Tryd.checked os 8 .any (fun w args => (Rows.chunkShiftSpec.pre enc Tryd.prog Tryd.f8 [] false w args ∧ laidMetH Tryd.prog laidL w) ∧ sizedMet enc Tryd.prog Tryd.f8 (OpenSpec.ofChange Rows.chunkShiftSpec) false w args)
      (Rows.chunkShiftSpec.post enc Tryd.prog Tryd.f8 false true false false) := by
  refine returnsInHanded_of_change_and (C := Tryd.checked) (X := fun w _ => laidMetH Tryd.prog laidL w) (fun _ _ _ hh h => h.of_heap hh) own_ChunkShift started (by kernel_rfl) Tryd.func8
    (ChangeSpec.witness_shaped (enc := enc) (C := Tryd.checked) (os := os) (X := fun w _ => laidMetH Tryd.prog laidL w) false (World.doorLaid Tryd.prog 400 os) #[.slice none 0 0, .int .i64 0, .int .i64 0] 8 rfl (World.shaped_of_RefB (by kernel_rfl) (by kernel_rfl)) (by kernel_rfl) (by kernel_rfl) (by kernel_rfl) (door_met os _)) ?_
  intro W base args ds gs before hval0 hW hcnd hsz0 hL _
  have hsz : (DataW.weightsEach Tryd.prog (Tryd.f8.params.toList ++ Rows.chunkShiftSpec.plain.varTypes Tryd.prog) (ds ++ gs)).all (· ≤ reachBytes) = true := hsz0
  clear hsz0
  have hval : ∀ (j : Nat) t v, Tryd.f8.params[j]? = some t → args[j]? = some v → Value.okWide Tryd.prog W .any base t v := hval0
  have hW' := hW
  obtain ⟨p, q, hA0, hV, rfl, hfz, hnd⟩ := hW
  have hA : DataW.TrodAll enc Tryd.prog W 0 (fun _ => true) true Tryd.f8.params.toList args.toList ds p := hA0
  rw [Tryd.params8] at hA hval hsz
  obtain ⟨v0, vs0, d0, ds0, p0, q0, hargs, rfl, rfl, h0, r0⟩ := trodAll_cons hA
  obtain ⟨v1, vs1, d1, ds1, p1, q1, rfl, rfl, rfl, h1, r1⟩ := trodAll_cons r0
  obtain ⟨v2, vs2, d2, ds2, p2, q2, rfl, rfl, rfl, h2, r2⟩ := trodAll_cons r1
  obtain ⟨rfl, rfl, rfl⟩ := trodAll_nil r2
  obtain rfl : args = #[v0, v1, v2] := by cases args; simp_all
  obtain ⟨rfl, rfl⟩ := trodVars_none hV
  have k0 := h0
  have lt0 : ∀ x ∈ p0, x.block < W.heap.size := by obtain ⟨m, hm⟩ := k0; exact DataW.trod_lt m _ _ _ hm
  obtain ⟨a0, len0, cap0, rfl⟩ := okWide_slice Tryd.underlying33 (hval 0 33 v0 rfl rfl)
  obtain ⟨x0, ri0, rr0, lc0, hd0⟩ := open_RD Tryd.underlying33 Tryd.underlying66 (by kernel_rfl) Tryd.underlying3 (by kernel_rfl) Tryd.underlying4 (by kernel_rfl) (by kernel_rfl) h0
  have bd0 : len0 ≤ 5864062014805 := by
    rcases hd0 with ⟨h, _⟩ | ⟨el, sp, hd, hl⟩
    · omega
    · subst hd
      have := sized_slice hsz (j := 0) (t := 33) (e := 66) rfl rfl Tryd.underlying33
      rw [show Tryd.prog.bytesOf 66 = 24 by kernel_rfl] at this
      simp only [reachBytes] at this
      omega
  have k1 := h1
  have lt1 : ∀ x ∈ p1, x.block < W.heap.size := by obtain ⟨m, hm⟩ := k1; exact DataW.trod_lt m _ _ _ hm
  obtain ⟨x1, rfl, rfl, rfl, wx1⟩ := open_int Tryd.underlying3 (hval 1 3 v1 rfl rfl) h1
  have rr1 := bounds_i64 wx1
  have k2 := h2
  have lt2 : ∀ x ∈ p2, x.block < W.heap.size := by obtain ⟨m, hm⟩ := k2; exact DataW.trod_lt m _ _ _ hm
  obtain ⟨x2, rfl, rfl, rfl, wx2⟩ := open_int Tryd.underlying3 (hval 2 3 v2 rfl rfl) h2
  have rr2 := bounds_i64 wx2
  clear hA0 hval0 hsz
  refine (keep_ChunkShift W (of_laid hL) a0 len0 cap0 x0 ri0 bd0 rr0 lc0 x1 rr1 x2 rr2).mono fun e W' ⟨he, bel⟩ => ?_
  subst he
  exact ⟨_, rfl, _, _, _, [], _, [], hW', trodAll_mk1 (shut_bool Tryd.underlying4 _), (trodAll_cons_mk (Below.trod laid_ChunkShift (by kernel_rfl) (of_decide_eq_true (by kernel_rfl)) k0 bel lt0) (trodAll_cons_mk (Below.trod laid_ChunkShift (by kernel_rfl) (of_decide_eq_true (by kernel_rfl)) k1 bel lt1) (trodAll_cons_mk (Below.trod laid_ChunkShift (by kernel_rfl) (of_decide_eq_true (by kernel_rfl)) k2 bel lt2) trodAll_mk0))), rfl, bel.frame _, fun h => by cases h⟩

theorem chunkShift_holds : Rows.ChunkShiftSaid :=
  OpenClaim.holds_of_wide 8 Tryd.f8 rfl rfl rfl rfl rfl rfl rfl ⟨rfl, rfl, rfl, rfl, rfl⟩ rfl rfl rfl rfl rfl (by kernel_rfl) Tryd.func8 (by kernel_rfl)
    (of_decide_eq_true (by kernel_rfl)) (by unfold Func.isWrapper; first | (rw [if_pos (by decide +kernel)]; kernel_rfl) | (rw [if_neg (by decide +kernel)]; exact ⟨rfl, rfl⟩))
    (fun os started H enc _ => lifted_ChunkShift os started H enc)

theorem chunkShift_card : Rows.ChunkShiftCardSaid :=
  Claim7.holds_tied_plain_at .later [] [.data] true (true, "647f6ad127482e82e3c44b34736b70cb98d6497e58771133334d9f52a4931661") false
    chunkShift_holds (fun _ h => by cases h) (by kernel_rfl) (fun _ h => by cases h) chunkShift_row_tie rfl ⟨rfl, rfl⟩ (by kernel_rfl) rfl
    (fun f fn hf hfn => by
      obtain rfl : f = 8 := Option.some.inj ((show Tryd.prog.funcNamed "barograph/barographkeep.ChunkShift" = some 8 by kernel_rfl).symm.trans hf) |>.symm
      obtain rfl : fn = Tryd.f8 := (Option.some.inj (Tryd.func8.symm.trans hfn)).symm
      exact ⟨by kernel_rfl, fun j t ht => by
        rw [Tryd.params8] at ht
        have hm : t ∈ [33, 3, 3] := by simpa using Array.mem_of_getElem? ht
        have hall : ([33, 3, 3].all fun u => !Tryd.prog.wantsStandIn u) = true := by kernel_rfl
        exact (show Tryd.prog.wantsStandIn t = false by simpa using List.all_eq_true.1 hall t hm)⟩)
    (by kernel_rfl)
#print axioms chunkShift_card
end Go.Proofs.YtekojlepmfmmpaaDoor
