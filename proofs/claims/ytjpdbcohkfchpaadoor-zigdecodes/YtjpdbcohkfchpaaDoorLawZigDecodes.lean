/- zig.Decode answers what the document says, at every argument: the law's call returns true, and leaves what was there as it was. No condition but that each slice takes at most 2^47 bytes and that the table of prefixes holds what the program's text lays (the card ties it). -/
import Derived.Test.YtjpdbcohkfchpaaDoorZigDec4
import Derived.Test.YtjpdbcohkfchpaaDoorRefZigDec
import Derived.Test.YtjpdbcohkfchpaaDoorSameInts
import Derived.Test.YtjpdbcohkfchpaaDoorOpen
set_option linter.unusedSimpArgs false
set_option linter.unusedVariables false
namespace Go.Proofs.YtjpdbcohkfchpaaDoor
open Go.ChangeShapes Go.WideShapes Go.ChangeAt Go.RowKit Go.Ord Go.Baro

theorem dcY_length (l : List Int) (k : Int) : (dcY l k).length ≤ 240 := by
  unfold dcY
  split
  · by_cases h : (decL l k.toNat 0).2 = 0
    · rw [decL_len l _ _ h]; omega
    · rw [decL_err l _ _ h]; simp
  · simp

set_option maxHeartbeats 1000000 in
theorem law_ZigDecodes (w : World) (hT : Tab w) (A0 : Option Addr) (n0 c0 : Nat) (l : List Int) (hb : RI w w.heap.size .u8 A0 n0 l) (hn : n0 ≤ 140737488351232) (hr : ∀ x ∈ l, 0 ≤ x ∧ x < 256) (hnc : n0 ≤ c0)
    (k : Int) (rk : -9223372036854775808 ≤ k ∧ k ≤ 9223372036854775807) :
    Calls Tryd.prog 5 #[.slice A0 n0 c0, .int .i64 k] w fun e w' => e = .returned (.bool true) ∧ Below w.heap.size w w' := by
  have hlen := dcY_length l k
  go_enter Tryd.func5, Tryd.ntmps5
  go_wp2_with fail
  refine (zig_Decode l _ _ _ k _ hT hb hr (by omega) hnc).mono ?_
  rintro e w1 ⟨v1, rfl, hown1, hbel1⟩
  obtain ⟨B1, k1, rfl, hc1⟩ := own_form hown1
  have h1 : RI w1 w1.heap.size .i64 B1 _ (dcY l k) := Rd.of_own hown1
  go_wp2_with fail
  refine (ref_ZigDecoded l _ _ _ k _ ((hb.below hbel1).more hbel1.size) hr hn).mono ?_
  rintro e w2 ⟨v2, rfl, hown2, hbel2⟩
  obtain ⟨B2, k2, rfl, hc2⟩ := own_form hown2
  have h2 : RI w2 w2.heap.size .i64 B2 _ (dcY l k) := Rd.of_own hown2
  have hbel : Below w.heap.size w w2 := hbel1.trans (hbel2.mono hbel1.size)
  go_wp2_with fail
  refine (law_sameInts _ _ _ _ _ _ _ _ _ _ _ true (h1.below hbel2) h2 (by simp) (by omega) (by omega)).mono ?_
  rintro e w3 ⟨rfl, m, rfl⟩
  go_wp2
  go_ret
  exact ⟨rfl, hbel.drewN m⟩

theorem own_ZigDecodes : ownKnob Tryd.prog.godebug = none := by kernel_rfl
theorem laid_ZigDecodes : laidOutB Tryd.prog = true := by kernel_rfl
set_option maxRecDepth 100000 in
theorem lifted_ZigDecodes (os : Os) (started : os.Started) (H : Type) (enc : TypeId × Value → H) :
    ReturnsInHanded {} Tryd.checked os 5 .any (fun w args => (Rows.zigDecodesSpec.pre enc Tryd.prog Tryd.f5 [] false w args ∧ laidMetH Tryd.prog laidL w) ∧ sizedMet enc Tryd.prog Tryd.f5 (OpenSpec.ofChange Rows.zigDecodesSpec) false w args)
      (Rows.zigDecodesSpec.post enc Tryd.prog Tryd.f5 false true false false) := by
  refine returnsInHanded_of_change_and (C := Tryd.checked) (X := fun w _ => laidMetH Tryd.prog laidL w) (fun _ _ _ hh h => h.of_heap hh) own_ZigDecodes started (by kernel_rfl) Tryd.func5
    (ChangeSpec.witness_shaped (enc := enc) (C := Tryd.checked) (os := os) (X := fun w _ => laidMetH Tryd.prog laidL w) false (World.doorLaid Tryd.prog 400 os) #[.slice none 0 0, .int .i64 0] 8 rfl (World.shaped_of_RefB (by kernel_rfl) (by kernel_rfl)) (by kernel_rfl) (by kernel_rfl) (by kernel_rfl) (door_met os _)) ?_
  intro W base args ds gs before hval0 hW hcnd hsz0 hL _
  have hsz : (DataW.weightsEach Tryd.prog (Tryd.f5.params.toList ++ Rows.zigDecodesSpec.plain.varTypes Tryd.prog) (ds ++ gs)).all (· ≤ reachBytes) = true := hsz0
  clear hsz0
  have hval : ∀ (j : Nat) t v, Tryd.f5.params[j]? = some t → args[j]? = some v → Value.okWide Tryd.prog W .any base t v := hval0
  have hW' := hW
  obtain ⟨p, q, hA0, hV, rfl, hfz, hnd⟩ := hW
  have hA : DataW.TrodAll enc Tryd.prog W 0 (fun _ => true) true Tryd.f5.params.toList args.toList ds p := hA0
  rw [Tryd.params5] at hA hval hsz
  obtain ⟨v0, vs0, d0, ds0, p0, q0, hargs, rfl, rfl, h0, r0⟩ := trodAll_cons hA
  obtain ⟨v1, vs1, d1, ds1, p1, q1, rfl, rfl, rfl, h1, r1⟩ := trodAll_cons r0
  obtain ⟨rfl, rfl, rfl⟩ := trodAll_nil r1
  obtain rfl : args = #[v0, v1] := by cases args; simp_all
  obtain ⟨rfl, rfl⟩ := trodVars_none hV
  have k0 := h0
  have lt0 : ∀ x ∈ p0, x.block < W.heap.size := by obtain ⟨m, hm⟩ := k0; exact DataW.trod_lt m _ _ _ hm
  obtain ⟨a0, len0, cap0, rfl⟩ := okWide_slice Tryd.underlying27 (hval 0 27 v0 rfl rfl)
  obtain ⟨x0, ri0, wx0, lc0, hd0⟩ := open_RI Tryd.underlying27 Tryd.underlying5 (by kernel_rfl) h0
  have bd0 : len0 ≤ 140737488351232 := by
    rcases hd0 with ⟨h, _⟩ | ⟨el, sp, hd, hl⟩
    · omega
    · subst hd
      have := sized_slice hsz (j := 0) (t := 27) (e := 5) rfl rfl Tryd.underlying27
      rw [show Tryd.prog.bytesOf 5 = 1 by kernel_rfl] at this
      simp only [reachBytes] at this
      omega
  have rr0 : ∀ x ∈ x0, 0 ≤ x ∧ x < 256 := fun x hx => by have := bounds_u8 (wx0 x hx); omega
  have k1 := h1
  have lt1 : ∀ x ∈ p1, x.block < W.heap.size := by obtain ⟨m, hm⟩ := k1; exact DataW.trod_lt m _ _ _ hm
  obtain ⟨x1, rfl, rfl, rfl, wx1⟩ := open_int Tryd.underlying3 (hval 1 3 v1 rfl rfl) h1
  have rr1 := bounds_i64 wx1
  clear hA0 hval0 hsz
  refine (law_ZigDecodes W (of_laid hL) a0 len0 cap0 x0 ri0 bd0 rr0 lc0 x1 rr1).mono fun e W' ⟨he, bel⟩ => ?_
  subst he
  exact ⟨_, rfl, _, _, _, [], _, [], hW', trodAll_mk1 (shut_bool Tryd.underlying4 _), (trodAll_cons_mk (Below.trod laid_ZigDecodes (by kernel_rfl) (of_decide_eq_true (by kernel_rfl)) k0 bel lt0) (trodAll_cons_mk (Below.trod laid_ZigDecodes (by kernel_rfl) (of_decide_eq_true (by kernel_rfl)) k1 bel lt1) trodAll_mk0)), rfl, bel.frame _, fun h => by cases h⟩

theorem zigDecodes_holds : Rows.ZigDecodesSaid :=
  OpenClaim.holds_of_wide 5 Tryd.f5 rfl rfl rfl rfl rfl rfl rfl ⟨rfl, rfl, rfl, rfl, rfl⟩ rfl rfl rfl rfl rfl (by kernel_rfl) Tryd.func5 (by kernel_rfl)
    (of_decide_eq_true (by kernel_rfl)) (by unfold Func.isWrapper; first | (rw [if_pos (by decide +kernel)]; kernel_rfl) | (rw [if_neg (by decide +kernel)]; exact ⟨rfl, rfl⟩))
    (fun os started H enc _ => lifted_ZigDecodes os started H enc)

theorem zigDecodes_card : Rows.ZigDecodesCardSaid :=
  Claim7.holds_tied_plain_at .later [] [.data] true (true, "72ccef4971c2cb35025201605496faadfdd4d9e9d5d238c1c4d2f65cbf014011") false
    zigDecodes_holds (fun _ h => by cases h) (by kernel_rfl) (fun _ h => by cases h) zigDecodes_row_tie rfl ⟨rfl, rfl⟩ (by kernel_rfl) rfl
    (fun f fn hf hfn => by
      obtain rfl : f = 5 := Option.some.inj ((show Tryd.prog.funcNamed "barograph/barographlaw.ZigDecodes" = some 5 by kernel_rfl).symm.trans hf) |>.symm
      obtain rfl : fn = Tryd.f5 := (Option.some.inj (Tryd.func5.symm.trans hfn)).symm
      exact ⟨by kernel_rfl, fun j t ht => by
        rw [Tryd.params5] at ht
        have hm : t ∈ [27, 3] := by simpa using Array.mem_of_getElem? ht
        have hall : ([27, 3].all fun u => !Tryd.prog.wantsStandIn u) = true := by kernel_rfl
        exact (show Tryd.prog.wantsStandIn t = false by simpa using List.all_eq_true.1 hall t hm)⟩)
    (by kernel_rfl)
#print axioms zigDecodes_card
end Go.Proofs.YtjpdbcohkfchpaaDoor
