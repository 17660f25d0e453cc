/- chunk.Decode answers what the document says, at every argument: the law's call returns true, and leaves what was there as it was. No condition but that each slice takes at most 2^47 bytes and that the table of prefixes holds what the program's text lays (the card ties it). -/
import Derived.Test.YtekojlepmfmmpaaDoorChunk4
import Derived.Test.YtekojlepmfmmpaaDoorRefChunkDec
import Derived.Test.YtekojlepmfmmpaaDoorSameSamples
import Derived.Test.YtekojlepmfmmpaaDoorOpen
set_option linter.unusedSimpArgs false
set_option linter.unusedVariables false
namespace Go.Proofs.YtekojlepmfmmpaaDoor
open Go.ChangeShapes Go.WideShapes Go.ChangeAt Go.RowKit Go.Ord Go.Baro

set_option maxHeartbeats 1000000 in
theorem law_ChunkDecodes (w : World) (hT : Tab w) (A0 : Option Addr) (n0 c0 : Nat) (l : List Int) (hb : RI w w.heap.size .u8 A0 n0 l) (hn : n0 ≤ 140737488351232) (hr : ∀ x ∈ l, 0 ≤ x ∧ x < 256) (hnc : n0 ≤ c0) :
    Calls Tryd.prog 4 #[.slice A0 n0 c0] w fun e w' => e = .returned (.bool true) ∧ Below w.heap.size w w' := by
  have hlen := chD_length l
  have HR := Lib.hid hr
  clear hr
  go_enter Tryd.func4, Tryd.ntmps4
  go_wp2_with fail
  refine (chunk_Decode l _ _ _ _ hT hb HR.out (by omega) hnc).mono ?_
  rintro e w1 ⟨v1, rfl, hown1, hbel1⟩
  obtain ⟨B1, k1, rfl, hc1⟩ := own_form hown1
  have h1 : RF w1 w1.heap.size B1 _ (chD l).1 := Rd.of_own hown1
  go_wp2_with fail
  refine (ref_ChunkDecoded l _ _ _ _ ((hb.below hbel1).more hbel1.size) HR.out hn).mono ?_
  rintro e w2 ⟨v2, rfl, hown2, hbel2⟩
  obtain ⟨B2, k2, rfl, hc2⟩ := own_form hown2
  have h2 : RF w2 w2.heap.size B2 _ (chD l).1 := Rd.of_own hown2
  have hbel : Below w.heap.size w w2 := hbel1.trans (hbel2.mono hbel1.size)
  go_wp2_with fail
  refine (law_sameSamples _ _ _ _ _ _ _ _ _ _ _ true (h1.below hbel2) h2 (by simp) (by omega) (by omega)).mono ?_
  rintro e w3 ⟨rfl, m, rfl⟩
  go_wp2
  go_ret
  exact ⟨rfl, hbel.drewN m⟩

theorem own_ChunkDecodes : ownKnob Tryd.prog.godebug = none := by kernel_rfl
theorem laid_ChunkDecodes : laidOutB Tryd.prog = true := by kernel_rfl
set_option maxRecDepth 100000 in
theorem lifted_ChunkDecodes (os : Os) (started : os.Started) (H : Type) (enc : TypeId × Value → H) :
    ReturnsInHanded {} Tryd.checked os 4 .any (fun w args => (Rows.chunkDecodesSpec.pre enc Tryd.prog Tryd.f4 [] false w args ∧ laidMetH Tryd.prog laidL w) ∧ sizedMet enc Tryd.prog Tryd.f4 (OpenSpec.ofChange Rows.chunkDecodesSpec) false w args)
      (Rows.chunkDecodesSpec.post enc Tryd.prog Tryd.f4 false true false false) := by
  refine returnsInHanded_of_change_and (C := Tryd.checked) (X := fun w _ => laidMetH Tryd.prog laidL w) (fun _ _ _ hh h => h.of_heap hh) own_ChunkDecodes started (by kernel_rfl) Tryd.func4
    (ChangeSpec.witness_shaped (enc := enc) (C := Tryd.checked) (os := os) (X := fun w _ => laidMetH Tryd.prog laidL w) false (World.doorLaid Tryd.prog 400 os) #[.slice none 0 0] 8 rfl (World.shaped_of_RefB (by kernel_rfl) (by kernel_rfl)) (by kernel_rfl) (by kernel_rfl) (by kernel_rfl) (door_met os _)) ?_
  intro W base args ds gs before hval0 hW hcnd hsz0 hL _
  have hsz : (DataW.weightsEach Tryd.prog (Tryd.f4.params.toList ++ Rows.chunkDecodesSpec.plain.varTypes Tryd.prog) (ds ++ gs)).all (· ≤ reachBytes) = true := hsz0
  clear hsz0
  have hval : ∀ (j : Nat) t v, Tryd.f4.params[j]? = some t → args[j]? = some v → Value.okWide Tryd.prog W .any base t v := hval0
  have hW' := hW
  obtain ⟨p, q, hA0, hV, rfl, hfz, hnd⟩ := hW
  have hA : DataW.TrodAll enc Tryd.prog W 0 (fun _ => true) true Tryd.f4.params.toList args.toList ds p := hA0
  rw [Tryd.params4] at hA hval hsz
  obtain ⟨v0, vs0, d0, ds0, p0, q0, hargs, rfl, rfl, h0, r0⟩ := trodAll_cons hA
  obtain ⟨rfl, rfl, rfl⟩ := trodAll_nil r0
  obtain rfl : args = #[v0] := by cases args; simp_all
  obtain ⟨rfl, rfl⟩ := trodVars_none hV
  have k0 := h0
  have lt0 : ∀ x ∈ p0, x.block < W.heap.size := by obtain ⟨m, hm⟩ := k0; exact DataW.trod_lt m _ _ _ hm
  obtain ⟨a0, len0, cap0, rfl⟩ := okWide_slice Tryd.underlying23 (hval 0 23 v0 rfl rfl)
  obtain ⟨x0, ri0, wx0, lc0, hd0⟩ := open_RI Tryd.underlying23 Tryd.underlying5 (by kernel_rfl) h0
  have bd0 : len0 ≤ 140737488351232 := by
    rcases hd0 with ⟨h, _⟩ | ⟨el, sp, hd, hl⟩
    · omega
    · subst hd
      have := sized_slice hsz (j := 0) (t := 23) (e := 5) rfl rfl Tryd.underlying23
      rw [show Tryd.prog.bytesOf 5 = 1 by kernel_rfl] at this
      simp only [reachBytes] at this
      omega
  have rr0 : ∀ x ∈ x0, 0 ≤ x ∧ x < 256 := fun x hx => by have := bounds_u8 (wx0 x hx); omega
  clear hA0 hval0 hsz
  refine (law_ChunkDecodes W (of_laid hL) a0 len0 cap0 x0 ri0 bd0 rr0 lc0).mono fun e W' ⟨he, bel⟩ => ?_
  subst he
  exact ⟨_, rfl, _, _, _, [], _, [], hW', trodAll_mk1 (shut_bool Tryd.underlying4 _), (trodAll_cons_mk (Below.trod laid_ChunkDecodes (by kernel_rfl) (of_decide_eq_true (by kernel_rfl)) k0 bel lt0) trodAll_mk0), rfl, bel.frame _, fun h => by cases h⟩

theorem chunkDecodes_holds : Rows.ChunkDecodesSaid :=
  OpenClaim.holds_of_wide 4 Tryd.f4 rfl rfl rfl rfl rfl rfl rfl ⟨rfl, rfl, rfl, rfl, rfl⟩ rfl rfl rfl rfl rfl (by kernel_rfl) Tryd.func4 (by kernel_rfl)
    (of_decide_eq_true (by kernel_rfl)) (by unfold Func.isWrapper; first | (rw [if_pos (by decide +kernel)]; kernel_rfl) | (rw [if_neg (by decide +kernel)]; exact ⟨rfl, rfl⟩))
    (fun os started H enc _ => lifted_ChunkDecodes os started H enc)

theorem chunkDecodes_card : Rows.ChunkDecodesCardSaid :=
  Claim7.holds_tied_plain_at .later [] [.data] true (true, "647f6ad127482e82e3c44b34736b70cb98d6497e58771133334d9f52a4931661") false
    chunkDecodes_holds (fun _ h => by cases h) (by kernel_rfl) (fun _ h => by cases h) chunkDecodes_row_tie rfl ⟨rfl, rfl⟩ (by kernel_rfl) rfl
    (fun f fn hf hfn => by
      obtain rfl : f = 4 := Option.some.inj ((show Tryd.prog.funcNamed "barograph/barographlaw.ChunkDecodes" = some 4 by kernel_rfl).symm.trans hf) |>.symm
      obtain rfl : fn = Tryd.f4 := (Option.some.inj (Tryd.func4.symm.trans hfn)).symm
      exact ⟨by kernel_rfl, fun j t ht => by
        rw [Tryd.params4] at ht
        have hm : t ∈ [23] := by simpa using Array.mem_of_getElem? ht
        have hall : ([23].all fun u => !Tryd.prog.wantsStandIn u) = true := by kernel_rfl
        exact (show Tryd.prog.wantsStandIn t = false by simpa using List.all_eq_true.1 hall t hm)⟩)
    (by kernel_rfl)
#print axioms chunkDecodes_card
end Go.Proofs.YtekojlepmfmmpaaDoor
