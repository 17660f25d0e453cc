/- Samples come back from their chunk; a chunk that is cut off is too short, and one with more behind it is none; at every argument: the statement's call returns true, and leaves what was there as it was. No condition but that each slice takes at most 2^47 bytes and that the table of prefixes holds what the program's text lays (the card ties it). -/
import Derived.Test.YtekojlepmfmmpaaDoorChunk2
import Derived.Test.YtekojlepmfmmpaaDoorKeepSamples
import Derived.Test.YtekojlepmfmmpaaDoorSameSamplesK
set_option linter.unusedSimpArgs false
set_option linter.unusedVariables false
namespace Go.Proofs.YtekojlepmfmmpaaDoor
open Go.ChangeShapes Go.WideShapes Go.ChangeAt Go.RowKit Go.Ord Go.Baro

set_option maxRecDepth 100000 in
set_option maxHeartbeats 2000000 in
theorem keep_ChunkBack (w : World) (hT : Tab w) (A0 : Option Addr) (n0 c0 : Nat) (l : List (Int × Int × Bool)) (hd : RD w w.heap.size A0 n0 l) (hn0 : n0 ≤ 5864062014805) (hr0 : ∀ f ∈ l, (-9223372036854775808 ≤ f.1 ∧ f.1 ≤ 9223372036854775807) ∧ -9223372036854775808 ≤ f.2.1 ∧ f.2.1 ≤ 9223372036854775807) (_ : n0 ≤ c0)
    (first : Int) (r1 : -9223372036854775808 ≤ first ∧ first ≤ 9223372036854775807) (cut : Int) (r2 : -9223372036854775808 ≤ cut ∧ cut ≤ 9223372036854775807)
    (A3 : Option Addr) (n3 c3 : Nat) (more : List Int) (hm : RI w w.heap.size .u8 A3 n3 more) (hn3 : n3 ≤ 140737488351232) (hr3 : ∀ x ∈ more, 0 ≤ x ∧ x < 256) (_ : n3 ≤ c3) :
    Calls Tryd.prog 5 #[.slice A0 n0 c0, .int .i64 first, .int .i64 cut, .slice A3 n3 c3] w fun e w' => e = .returned (.bool true) ∧ Below w.heap.size w w' := by
  have hlt := hT.lt
  have HR3 := Lib.hid hr3
  have HR0 := Lib.hid hr0
  have HLM := Lib.hid hm.len
  clear hr3 hr0
  go_enter Tryd.func5, Tryd.ntmps5
  go_wp2_with fail
  refine (keep_Samples l A0 n0 c0 first 120 w hd hn0 HR0.out r1 (Nat.le_refl _)).mono ?_
  rintro e w1 ⟨v1, S, rfl, HS, hSl, hown1, hbel1⟩
  have HC := Lib.hid (HS.out.ch hSl)
  have hYl := chY_length S
  have HYR := Lib.hid (chY_range S)
  have HYP := Lib.hid (chY_pos HC.out)
  have HBK := Lib.hid (chunk_back HC.out)
  have HCT := Lib.hid (fun k hk => chunk_cut HC.out k hk)
  have HMR := Lib.hid (chunk_more HC.out (0 :: more) (by simp))
  obtain ⟨B1, c1, rfl, hc1⟩ := own_form hown1
  have hrf1 : RF w1 w1.heap.size B1 S.length S := Rd.of_own hown1
  go_wp2_with fail
  refine (chunk_Encode S B1 S.length c1 _ (hT.below hbel1 hlt) hrf1 (by omega)).mono ?_
  rintro e w2 ⟨v2, rfl, hown2, hb2⟩
  have hbel2 : Below w.heap.size w w2 := hbel1.trans (hb2.mono hbel1.size)
  have hownS2 := own_below hown1 hb2
  rw [HC.out]
  obtain ⟨N, hown2, hN⟩ := own_count hown2
  have HN := Lib.hid hN
  rw [← hN] at hYl HYP
  clear hN
  have hNp := HYP.out
  obtain ⟨g, c2, rfl, hg1, hg2, hc2⟩ := own_some hown2 hNp
  have hri2 : RI w2 w2.heap.size .u8 (some ⟨g, 0, none⟩) N (chY S) := Rd.of_own hown2
  go_wp2_with (at_builtin; go_must (refine app_src eltByte w2 rfl (.const (.slice none 0 0)) (.tmp 27) rfl w2.heap.size _ 0 [] rfl (World.ownsRow_nil _ _ _ _) _ N c2 _ rfl _ hri2 (one_ints _ _) (by omega) (by omega) (Nat.le_refl _) ?_); intro v3 w3 hown3 _ hbel3 _; rw [List.nil_append, Nat.zero_add] at hown3; have hb3 : Below w2.heap.size w2 w3 := hbel3 w2 (Below.refl _ _); clear hbel3; obtain ⟨B3, k3, rfl, hk3⟩ := own_form hown3)
  have hri3 : RI w3 w3.heap.size .u8 B3 N (chY S) := Rd.of_own hown3
  have hbel3 : Below w.heap.size w w3 := hbel2.trans (hb3.mono hbel2.size)
  go_wp2_with fail
  refine (chunk_Decode (chY S) B3 N k3 _ (hT.below hbel3 hlt) hri3 HYR.out (by omega) hk3).mono ?_
  rintro e w4 ⟨v4, rfl, hown4, hb4⟩
  rw [HBK.out] at hown4 ⊢
  dsimp only at hown4 ⊢
  have hbel4 : Below w.heap.size w w4 := hbel3.trans (hb4.mono hbel3.size)
  have hownS4 := own_below (own_below hownS2 hb3) hb4
  have hownB4 := own_below (own_below hown2 hb3) hb4
  obtain ⟨B4, k4, rfl, hk4⟩ := own_form hown4
  have hrf4 : RF w4 w4.heap.size B4 S.length S := Rd.of_own hown4
  have hrfS : RF w4 w4.heap.size B1 S.length S := Rd.of_own hownS4
  go_wp2_with fail
  refine (keep_sameSamples S S _ _ _ _ _ _ _ _ _ true hrfS hrf4 (by simp) (by omega) (by omega)).mono ?_
  rintro e w5 ⟨rfl, m5, rfl⟩
  have hbel5 : Below w.heap.size w (w4.drewN m5) := hbel4.drewN m5
  have hri5 : RI (w4.drewN m5) (w4.drewN m5).heap.size .u8 (some ⟨g, 0, none⟩) N (chY S) := Rd.of_own hownB4
  have hm1 := Int.emod_nonneg cut (show (N : Int) ≠ 0 by omega)
  have hm2 := Int.emod_lt_of_pos cut (show (0 : Int) < (N : Int) by omega)
  have hownB5 : (w4.drewN m5).ownsRow _ _ _ _ _ _ := hownB4
  generalize w4.drewN m5 = w5 at *
  go_wp2_with fail
  refine (keep_Picked cut N _ (by omega) (by omega)).mono ?_
  rintro e w' ⟨rfl, rfl⟩
  generalize cut % (N : Int) = K at *
  obtain ⟨K, rfl⟩ := Int.eq_ofNat_of_zero_le hm1
  have hKN : K < N := by omega
  have hri6 := RI.take hri5 (show K ≤ N by omega)
  go_wp2_with fail
  refine (chunk_Decode ((chY S).take K) _ K c2 _ (hT.below hbel5 hlt) hri6 (fun x hx => HYR.out x (List.mem_of_mem_take hx)) (by omega) (by omega)).mono ?_
  rintro e w6 ⟨v6, rfl, hown6, hb6⟩
  rw [HCT.out K (by rw [← HN.out]; exact hKN)] at hown6 ⊢
  dsimp only at hown6 ⊢
  have hbel6 : Below w.heap.size w w6 := hbel5.trans (hb6.mono hbel5.size)
  have hownB6 := own_below hownB5 hb6
  have hriA : RI w6 w6.heap.size .u8 (some ⟨g, 0, none⟩) N (chY S) := Rd.of_own hownB6
  have hsz6 := hbel6.size
  have hmA : RI w6 w.heap.size .u8 A3 n3 more := hm.below hbel6
  go_wp2_with (first
    | (at_builtin; refine app_src eltByte w6 rfl (.const (.slice none 0 0)) (.tmp 60) rfl w6.heap.size _ 0 [] rfl (World.ownsRow_nil _ _ _ _) _ N c2 _ rfl _ hriA (one_ints _ _) (by omega) (by omega) (Nat.le_refl _) ?_; intro u1 w7 hu1 _ hbel7 hsz7; rw [List.nil_append, Nat.zero_add] at hu1; have hb7 : Below w6.heap.size w6 w7 := hbel7 w6 (Below.refl _ _); clear hbel7)
    | (at_builtin; refine app_lit eltByte w7 rfl (.tmp 61) (.tmp 62) rfl w6.heap.size _ _ _ rfl (by exact hu1) 1 [_] _ rfl rfl rfl (one1 _ _) (by omega) (by omega) hsz7 ?_; intro u2 w8 hu2 _ hbel8 hsz8; have hb8 : Below w6.heap.size w6 w8 := hbel8 w6 hb7; clear hbel8; have hm8 : RI w8 w.heap.size .u8 A3 n3 more := hmA.below (hb8.mono hsz6))
    | (at_builtin; refine app_src eltByte w8 rfl (.tmp 63) (.tmp 64) rfl w6.heap.size _ _ _ rfl hu2 A3 n3 c3 _ rfl _ hm8 (one_ints _ _) (by omega) (by omega) hsz8 ?_; intro u3 w9 hu3 _ hbel9 hsz9; have hb9 : Below w6.heap.size w6 w9 := hbel9 w6 hb8; clear hbel9; obtain ⟨U, ku, rfl, hku⟩ := own_form hu3))
  have hbel9 : Below w.heap.size w w9 := hbel6.trans (hb9.mono hsz6)
  have hri9 : RI w9 w9.heap.size .u8 U (N + 1 + n3) (chY S ++ 0 :: more) := by
    have := Rd.of_own hu3
    unfold RI
    rw [List.map_append, List.map_cons]
    simpa using this
  go_wp2_with fail
  refine (chunk_Decode (chY S ++ 0 :: more) _ _ ku _ (hT.below hbel9 hlt) hri9 (by
    intro x hx
    rcases List.mem_append.1 hx with h | h
    · exact HYR.out x h
    · rcases List.mem_cons.1 h with rfl | h
      · omega
      · exact HR3.out x h) (by omega) hku).mono ?_
  rintro e wA ⟨vA, rfl, hownA, hbA⟩
  rw [HMR.out] at hownA ⊢
  dsimp only at hownA ⊢
  go_wp2
  go_ret
  exact ⟨rfl, hbel9.trans (hbA.mono hbel9.size)⟩

theorem own_ChunkBack : ownKnob Tryd.prog.godebug = none := by kernel_rfl
theorem laid_ChunkBack : laidOutB Tryd.prog = true := by kernel_rfl
set_option maxRecDepth 100000 in
theorem lifted_ChunkBack (os : Os) (started : os.Started) (H : Type) (enc : TypeId × Value → H) :
    ReturnsInHanded {} Tryd.checked os 5 .any (fun w args => (Rows.chunkBackSpec.pre enc Tryd.prog Tryd.f5 [] false w args ∧ laidMetH Tryd.prog laidL w) ∧ sizedMet enc Tryd.prog Tryd.f5 (OpenSpec.ofChange Rows.chunkBackSpec) false w args)
      (Rows.chunkBackSpec.post enc Tryd.prog Tryd.f5 false true false false) := by
  refine returnsInHanded_of_change_and (C := Tryd.checked) (X := fun w _ => laidMetH Tryd.prog laidL w) (fun _ _ _ hh h => h.of_heap hh) own_ChunkBack started (by kernel_rfl) Tryd.func5
    (ChangeSpec.witness_shaped (enc := enc) (C := Tryd.checked) (os := os) (X := fun w _ => laidMetH Tryd.prog laidL w) false (World.doorLaid Tryd.prog 400 os) #[.slice none 0 0, .int .i64 0, .int .i64 0, .slice none 0 0] 8 rfl (World.shaped_of_RefB (by kernel_rfl) (by kernel_rfl)) (by kernel_rfl) (by kernel_rfl) (by kernel_rfl) (door_met os _)) ?_
  intro W base args ds gs before hval0 hW hcnd hsz0 hL _
  have hsz : (DataW.weightsEach Tryd.prog (Tryd.f5.params.toList ++ Rows.chunkBackSpec.plain.varTypes Tryd.prog) (ds ++ gs)).all (· ≤ reachBytes) = true := hsz0
  clear hsz0
  have hval : ∀ (j : Nat) t v, Tryd.f5.params[j]? = some t → args[j]? = some v → Value.okWide Tryd.prog W .any base t v := hval0
  have hW' := hW
  obtain ⟨p, q, hA0, hV, rfl, hfz, hnd⟩ := hW
  have hA : DataW.TrodAll enc Tryd.prog W 0 (fun _ => true) true Tryd.f5.params.toList args.toList ds p := hA0
  rw [Tryd.params5] at hA hval hsz
  obtain ⟨v0, vs0, d0, ds0, p0, q0, hargs, rfl, rfl, h0, r0⟩ := trodAll_cons hA
  obtain ⟨v1, vs1, d1, ds1, p1, q1, rfl, rfl, rfl, h1, r1⟩ := trodAll_cons r0
  obtain ⟨v2, vs2, d2, ds2, p2, q2, rfl, rfl, rfl, h2, r2⟩ := trodAll_cons r1
  obtain ⟨v3, vs3, d3, ds3, p3, q3, rfl, rfl, rfl, h3, r3⟩ := trodAll_cons r2
  obtain ⟨rfl, rfl, rfl⟩ := trodAll_nil r3
  obtain rfl : args = #[v0, v1, v2, v3] := by cases args; simp_all
  obtain ⟨rfl, rfl⟩ := trodVars_none hV
  have k0 := h0
  have lt0 : ∀ x ∈ p0, x.block < W.heap.size := by obtain ⟨m, hm⟩ := k0; exact DataW.trod_lt m _ _ _ hm
  obtain ⟨a0, len0, cap0, rfl⟩ := okWide_slice Tryd.underlying33 (hval 0 33 v0 rfl rfl)
  obtain ⟨x0, ri0, rr0, lc0, hd0⟩ := open_RD Tryd.underlying33 Tryd.underlying66 (by kernel_rfl) Tryd.underlying3 (by kernel_rfl) Tryd.underlying4 (by kernel_rfl) (by kernel_rfl) h0
  have bd0 : len0 ≤ 5864062014805 := by
    rcases hd0 with ⟨h, _⟩ | ⟨el, sp, hd, hl⟩
    · omega
    · subst hd
      have := sized_slice hsz (j := 0) (t := 33) (e := 66) rfl rfl Tryd.underlying33
      rw [show Tryd.prog.bytesOf 66 = 24 by kernel_rfl] at this
      simp only [reachBytes] at this
      omega
  have k1 := h1
  have lt1 : ∀ x ∈ p1, x.block < W.heap.size := by obtain ⟨m, hm⟩ := k1; exact DataW.trod_lt m _ _ _ hm
  obtain ⟨x1, rfl, rfl, rfl, wx1⟩ := open_int Tryd.underlying3 (hval 1 3 v1 rfl rfl) h1
  have rr1 := bounds_i64 wx1
  have k2 := h2
  have lt2 : ∀ x ∈ p2, x.block < W.heap.size := by obtain ⟨m, hm⟩ := k2; exact DataW.trod_lt m _ _ _ hm
  obtain ⟨x2, rfl, rfl, rfl, wx2⟩ := open_int Tryd.underlying3 (hval 2 3 v2 rfl rfl) h2
  have rr2 := bounds_i64 wx2
  have k3 := h3
  have lt3 : ∀ x ∈ p3, x.block < W.heap.size := by obtain ⟨m, hm⟩ := k3; exact DataW.trod_lt m _ _ _ hm
  obtain ⟨a3, len3, cap3, rfl⟩ := okWide_slice Tryd.underlying23 (hval 3 23 v3 rfl rfl)
  obtain ⟨x3, ri3, wx3, lc3, hd3⟩ := open_RI Tryd.underlying23 Tryd.underlying5 (by kernel_rfl) h3
  have bd3 : len3 ≤ 140737488351232 := by
    rcases hd3 with ⟨h, _⟩ | ⟨el, sp, hd, hl⟩
    · omega
    · subst hd
      have := sized_slice hsz (j := 3) (t := 23) (e := 5) rfl rfl Tryd.underlying23
      rw [show Tryd.prog.bytesOf 5 = 1 by kernel_rfl] at this
      simp only [reachBytes] at this
      omega
  have rr3 : ∀ x ∈ x3, 0 ≤ x ∧ x < 256 := fun x hx => by have := bounds_u8 (wx3 x hx); omega
  clear hA0 hval0 hsz
  refine (keep_ChunkBack W (of_laid hL) a0 len0 cap0 x0 ri0 bd0 rr0 lc0 x1 rr1 x2 rr2 a3 len3 cap3 x3 ri3 bd3 rr3 lc3).mono fun e W' ⟨he, bel⟩ => ?_
  subst he
  exact ⟨_, rfl, _, _, _, [], _, [], hW', trodAll_mk1 (shut_bool Tryd.underlying4 _), (trodAll_cons_mk (Below.trod laid_ChunkBack (by kernel_rfl) (of_decide_eq_true (by kernel_rfl)) k0 bel lt0) (trodAll_cons_mk (Below.trod laid_ChunkBack (by kernel_rfl) (of_decide_eq_true (by kernel_rfl)) k1 bel lt1) (trodAll_cons_mk (Below.trod laid_ChunkBack (by kernel_rfl) (of_decide_eq_true (by kernel_rfl)) k2 bel lt2) (trodAll_cons_mk (Below.trod laid_ChunkBack (by kernel_rfl) (of_decide_eq_true (by kernel_rfl)) k3 bel lt3) trodAll_mk0)))), rfl, bel.frame _, fun h => by cases h⟩

theorem chunkBack_holds : Rows.ChunkBackSaid :=
  OpenClaim.holds_of_wide 5 Tryd.f5 rfl rfl rfl rfl rfl rfl rfl ⟨rfl, rfl, rfl, rfl, rfl⟩ rfl rfl rfl rfl rfl (by kernel_rfl) Tryd.func5 (by kernel_rfl)
    (of_decide_eq_true (by kernel_rfl)) (by unfold Func.isWrapper; first | (rw [if_pos (by decide +kernel)]; kernel_rfl) | (rw [if_neg (by decide +kernel)]; exact ⟨rfl, rfl⟩))
    (fun os started H enc _ => lifted_ChunkBack os started H enc)

theorem chunkBack_card : Rows.ChunkBackCardSaid :=
  Claim7.holds_tied_plain_at .later [] [.data] true (true, "647f6ad127482e82e3c44b34736b70cb98d6497e58771133334d9f52a4931661") false
    chunkBack_holds (fun _ h => by cases h) (by kernel_rfl) (fun _ h => by cases h) chunkBack_row_tie rfl ⟨rfl, rfl⟩ (by kernel_rfl) rfl
    (fun f fn hf hfn => by
      obtain rfl : f = 5 := Option.some.inj ((show Tryd.prog.funcNamed "barograph/barographkeep.ChunkBack" = some 5 by kernel_rfl).symm.trans hf) |>.symm
      obtain rfl : fn = Tryd.f5 := (Option.some.inj (Tryd.func5.symm.trans hfn)).symm
      exact ⟨by kernel_rfl, fun j t ht => by
        rw [Tryd.params5] at ht
        have hm : t ∈ [33, 3, 3, 23] := by simpa using Array.mem_of_getElem? ht
        have hall : ([33, 3, 3, 23].all fun u => !Tryd.prog.wantsStandIn u) = true := by kernel_rfl
        exact (show Tryd.prog.wantsStandIn t = false by simpa using List.all_eq_true.1 hall t hm)⟩)
    (by kernel_rfl)
#print axioms chunkBack_card
end Go.Proofs.YtekojlepmfmmpaaDoor
