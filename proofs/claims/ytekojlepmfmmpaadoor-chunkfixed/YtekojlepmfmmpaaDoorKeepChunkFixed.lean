/- Bytes that chunk.Decode reads are the encoding of what was read, at every argument: the statement's call returns true, and leaves what was there as it was. No condition but that each slice takes at most 2^47 bytes and that the table of prefixes holds what the program's text lays (the card ties it). -/
import Derived.Test.YtekojlepmfmmpaaDoorChunk2
import Derived.Test.YtekojlepmfmmpaaDoorChunk4
import Derived.Test.YtekojlepmfmmpaaDoorSameBytesK
import Derived.Test.YtekojlepmfmmpaaDoorOpen
set_option linter.unusedSimpArgs false
set_option linter.unusedVariables false
namespace Go.Proofs.YtekojlepmfmmpaaDoor
open Go.ChangeShapes Go.WideShapes Go.ChangeAt Go.RowKit Go.Ord Go.Baro

theorem chD_one : chD [0] = ([], 0) := chunk_back (s := []) rfl
theorem ri_byte (w : World) (x : Int) : RI (w.alloc (.cells #[.int .u8 x] 5)) (w.alloc (.cells #[.int .u8 x] 5)).heap.size .u8 (some ⟨w.heap.size, 0, none⟩) 1 [x] :=
  Rd.lit (cs := [.int .u8 x]) w 5 rfl

set_option maxHeartbeats 2000000 in
theorem keep_ChunkFixed (w : World) (hT : Tab w) (A0 : Option Addr) (n0 c0 : Nat) (l : List Int) (hb : RI w w.heap.size .u8 A0 n0 l) (hn : n0 ≤ 140737488351232) (hr : ∀ x ∈ l, 0 ≤ x ∧ x < 256) (hnc : n0 ≤ c0) :
    Calls Tryd.prog 6 #[.slice A0 n0 c0] w fun e w' => e = .returned (.bool true) ∧ Below w.heap.size w w' := by
  have hlen := chD_length l
  have hlt := hT.lt
  have HL := Lib.hid hb.len
  have HR := Lib.hid hr
  have HER := Lib.hid (chD_err l)
  have HFX := Lib.hid (chunk_fixed hr)
  clear hr
  obtain ⟨⟨S, K⟩, hD⟩ : ∃ D, D = chD l := ⟨_, rfl⟩
  have HD := Lib.hid hD.symm
  rw [← hD] at hlen HER HFX
  dsimp only at hlen HER HFX
  clear hD
  go_enter Tryd.func6, Tryd.ntmps6
  go_wp2_with (at_builtin; go_must (refine app_src eltByte _ rfl _ _ rfl w.heap.size _ 0 [] rfl (World.ownsRow_nil _ _ _ _) A0 n0 c0 (l.map (Value.int .u8)) rfl _ hb (one_ints _ _) (by omega) (by omega) (Nat.le_refl _) ?_); intro v1 w1 hown1 _ hbel1 _; have hown1 := (by simpa using hown1 : w1.ownsRow w.heap.size 5 1 v1 n0 (l.map (Value.int .u8))); have hbel1 : Below w.heap.size w w1 := hbel1 w (Below.refl _ _); obtain ⟨B1, c1, rfl, hc1⟩ := own_form hown1)
  have hri1 : RI w1 w1.heap.size .u8 B1 n0 l := Rd.of_own hown1
  go_wp2_with fail
  refine (chunk_Decode l B1 n0 c1 _ (hT.below hbel1 hlt) hri1 HR.out (by omega) hc1).mono ?_
  rintro e w2 ⟨v2, rfl, hown2, hb2⟩
  rw [HD.out] at hown2 ⊢
  dsimp only at hown2 ⊢
  have hbel2 : Below w.heap.size w w2 := hbel1.trans (hb2.mono hbel1.size)
  obtain ⟨B2, c2, rfl, hc2⟩ := own_form hown2
  go_wp2_with fail
  refine (chunk_Decode [0] _ 1 1 _ (hT.below (hbel2.alloc hbel2.size _) hlt) (ri_byte w2 0) (by simp) (by omega) (by omega)).mono ?_
  rintro e w3 ⟨v3, rfl, hown3, hb3⟩
  rw [chD_one] at hown3 ⊢
  dsimp only at hown3 ⊢
  have hbel3 : Below w.heap.size w w3 := (hbel2.alloc hbel2.size _).trans (hb3.mono (by have := hbel2.size; simp; omega))
  have hownS3 := own_below (hown2.alloc _) hb3
  obtain ⟨B3, c3, rfl, hc3⟩ := own_form hown3
  go_wp2_with fail
  refine (chunk_Decode [] none 0 0 _ (hT.below hbel3 hlt) (RI.nil _ _ _ _) (by simp) (by omega) (by omega)).mono ?_
  rintro e w4 ⟨v4, rfl, hown4, hb4⟩
  rw [show chD [] = ([], 5) from rfl] at hown4 ⊢
  dsimp only at hown4 ⊢
  have hbel4 : Below w.heap.size w w4 := hbel3.trans (hb4.mono hbel3.size)
  have hownS4 := own_below hownS3 hb4
  by_cases hk : K = 0
  · subst hk
    obtain ⟨h5, h6⟩ := HFX.out rfl
    have H5 := Lib.hid h5
    have H6 := Lib.hid h6
    clear h5 h6
    have hrf : RF w4 w4.heap.size B2 S.length S := Rd.of_own hownS4
    go_wp2_with fail
    refine (chunk_Encode S B2 S.length c2 _ (hT.below hbel4 hlt) hrf (by omega)).mono ?_
    rintro e w5 ⟨v5, rfl, hown5, hb5⟩
    rw [H5.out, H6.out] at *
    have hbel5 : Below w.heap.size w w5 := hbel4.trans (hb5.mono hbel4.size)
    obtain ⟨B5, c5, rfl, hc5⟩ := own_form hown5
    have hri5 : RI w5 w5.heap.size .u8 B5 l.length l := Rd.of_own hown5
    go_wp2_with fail
    refine (keep_sameBytes l l _ _ _ _ _ _ _ _ _ true hri5 (hb.below hbel5) (by simp) (by rw [HL.out]; omega) (by omega)).mono ?_
    rintro e w6 ⟨rfl, m, rfl⟩
    go_wp2
    go_ret
    exact ⟨rfl, hbel5.drewN m⟩
  · have hkb : (K != 0) = true := by simp [hk]
    obtain ⟨h45, hS⟩ := HER.out.resolve_left hk
    subst hS
    rcases h45 with rfl | rfl
    · go_wp2
      go_ret
      exact ⟨rfl, hbel4⟩
    · go_wp2
      go_ret
      exact ⟨rfl, hbel4⟩

theorem own_ChunkFixed : ownKnob Tryd.prog.godebug = none := by kernel_rfl
theorem laid_ChunkFixed : laidOutB Tryd.prog = true := by kernel_rfl
set_option maxRecDepth 100000 in
theorem lifted_ChunkFixed (os : Os) (started : os.Started) (H : Type) (enc : TypeId × Value → H) :
    ReturnsInHanded {} Tryd.checked os 6 .any (fun w args => (Rows.chunkFixedSpec.pre enc Tryd.prog Tryd.f6 [] false w args ∧ laidMetH Tryd.prog laidL w) ∧ sizedMet enc Tryd.prog Tryd.f6 (OpenSpec.ofChange Rows.chunkFixedSpec) false w args)
      (Rows.chunkFixedSpec.post enc Tryd.prog Tryd.f6 false true false false) := by
  refine returnsInHanded_of_change_and (C := Tryd.checked) (X := fun w _ => laidMetH Tryd.prog laidL w) (fun _ _ _ hh h => h.of_heap hh) own_ChunkFixed started (by kernel_rfl) Tryd.func6
    (ChangeSpec.witness_shaped (enc := enc) (C := Tryd.checked) (os := os) (X := fun w _ => laidMetH Tryd.prog laidL w) false (World.doorLaid Tryd.prog 400 os) #[.slice none 0 0] 8 rfl (World.shaped_of_RefB (by kernel_rfl) (by kernel_rfl)) (by kernel_rfl) (by kernel_rfl) (by kernel_rfl) (door_met os _)) ?_
  intro W base args ds gs before hval0 hW hcnd hsz0 hL _
  have hsz : (DataW.weightsEach Tryd.prog (Tryd.f6.params.toList ++ Rows.chunkFixedSpec.plain.varTypes Tryd.prog) (ds ++ gs)).all (· ≤ reachBytes) = true := hsz0
  clear hsz0
  have hval : ∀ (j : Nat) t v, Tryd.f6.params[j]? = some t → args[j]? = some v → Value.okWide Tryd.prog W .any base t v := hval0
  have hW' := hW
  obtain ⟨p, q, hA0, hV, rfl, hfz, hnd⟩ := hW
  have hA : DataW.TrodAll enc Tryd.prog W 0 (fun _ => true) true Tryd.f6.params.toList args.toList ds p := hA0
  rw [Tryd.params6] at hA hval hsz
  obtain ⟨v0, vs0, d0, ds0, p0, q0, hargs, rfl, rfl, h0, r0⟩ := trodAll_cons hA
  obtain ⟨rfl, rfl, rfl⟩ := trodAll_nil r0
  obtain rfl : args = #[v0] := by cases args; simp_all
  obtain ⟨rfl, rfl⟩ := trodVars_none hV
  have k0 := h0
  have lt0 : ∀ x ∈ p0, x.block < W.heap.size := by obtain ⟨m, hm⟩ := k0; exact DataW.trod_lt m _ _ _ hm
  obtain ⟨a0, len0, cap0, rfl⟩ := okWide_slice Tryd.underlying23 (hval 0 23 v0 rfl rfl)
  obtain ⟨x0, ri0, wx0, lc0, hd0⟩ := open_RI Tryd.underlying23 Tryd.underlying5 (by kernel_rfl) h0
  have bd0 : len0 ≤ 140737488351232 := by
    rcases hd0 with ⟨h, _⟩ | ⟨el, sp, hd, hl⟩
    · omega
    · subst hd
      have := sized_slice hsz (j := 0) (t := 23) (e := 5) rfl rfl Tryd.underlying23
      rw [show Tryd.prog.bytesOf 5 = 1 by kernel_rfl] at this
      simp only [reachBytes] at this
      omega
  have rr0 : ∀ x ∈ x0, 0 ≤ x ∧ x < 256 := fun x hx => by have := bounds_u8 (wx0 x hx); omega
  clear hA0 hval0 hsz
  refine (keep_ChunkFixed W (of_laid hL) a0 len0 cap0 x0 ri0 bd0 rr0 lc0).mono fun e W' ⟨he, bel⟩ => ?_
  subst he
  exact ⟨_, rfl, _, _, _, [], _, [], hW', trodAll_mk1 (shut_bool Tryd.underlying4 _), (trodAll_cons_mk (Below.trod laid_ChunkFixed (by kernel_rfl) (of_decide_eq_true (by kernel_rfl)) k0 bel lt0) trodAll_mk0), rfl, bel.frame _, fun h => by cases h⟩

theorem chunkFixed_holds : Rows.ChunkFixedSaid :=
  OpenClaim.holds_of_wide 6 Tryd.f6 rfl rfl rfl rfl rfl rfl rfl ⟨rfl, rfl, rfl, rfl, rfl⟩ rfl rfl rfl rfl rfl (by kernel_rfl) Tryd.func6 (by kernel_rfl)
    (of_decide_eq_true (by kernel_rfl)) (by unfold Func.isWrapper; first | (rw [if_pos (by decide +kernel)]; kernel_rfl) | (rw [if_neg (by decide +kernel)]; exact ⟨rfl, rfl⟩))
    (fun os started H enc _ => lifted_ChunkFixed os started H enc)

theorem chunkFixed_card : Rows.ChunkFixedCardSaid :=
  Claim7.holds_tied_plain_at .later [] [.data] true (true, "647f6ad127482e82e3c44b34736b70cb98d6497e58771133334d9f52a4931661") false
    chunkFixed_holds (fun _ h => by cases h) (by kernel_rfl) (fun _ h => by cases h) chunkFixed_row_tie rfl ⟨rfl, rfl⟩ (by kernel_rfl) rfl
    (fun f fn hf hfn => by
      obtain rfl : f = 6 := Option.some.inj ((show Tryd.prog.funcNamed "barograph/barographkeep.ChunkFixed" = some 6 by kernel_rfl).symm.trans hf) |>.symm
      obtain rfl : fn = Tryd.f6 := (Option.some.inj (Tryd.func6.symm.trans hfn)).symm
      exact ⟨by kernel_rfl, fun j t ht => by
        rw [Tryd.params6] at ht
        have hm : t ∈ [23] := by simpa using Array.mem_of_getElem? ht
        have hall : ([23].all fun u => !Tryd.prog.wantsStandIn u) = true := by kernel_rfl
        exact (show Tryd.prog.wantsStandIn t = false by simpa using List.all_eq_true.1 hall t hm)⟩)
    (by kernel_rfl)
#print axioms chunkFixed_card
end Go.Proofs.YtekojlepmfmmpaaDoor
