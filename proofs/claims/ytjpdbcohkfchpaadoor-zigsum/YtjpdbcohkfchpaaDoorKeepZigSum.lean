/- A code has as many bits as Size says, and that of a number that is not further from 0 is not longer: the law's call returns true, and leaves what was there as it was. No condition but that each slice takes at most 2^47 bytes and that the table of prefixes holds what the program's text lays (the card ties it). -/
import Derived.Test.YtjpdbcohkfchpaaDoorZigEnc
import Derived.Test.YtjpdbcohkfchpaaDoorZigSmalls
import Derived.Test.YtjpdbcohkfchpaaDoorKeepSmall
import Derived.Test.YtjpdbcohkfchpaaDoorOpen
set_option linter.unusedSimpArgs false
set_option linter.unusedVariables false
namespace Go.Proofs.YtjpdbcohkfchpaaDoor
open Go.ChangeShapes Go.WideShapes Go.ChangeAt Go.RowKit Go.Ord Go.Baro

theorem zig_SizeS (n : Int) (w : World) (hT : Tab w) (h : -288230376151711744 ≤ n ∧ n < 288230376151711744) :
    Calls Tryd.prog 8 #[.int .i64 n] w fun e w' => (∃ s : Int, e = .returned (.tuple #[.int .i64 s, .int .i64 0]) ∧ Hid (s = zsize (zfold n)) ∧ 1 ≤ s ∧ s ≤ 63) ∧ Below w.heap.size w w' := by
  refine (zig_Size n w hT (by omega) (by omega)).mono ?_
  rintro e w' ⟨rfl, hb⟩
  have h1 := sz_in h
  have h2 := zsize_le (zfold n)
  exact ⟨⟨zsize (zfold n), by rw [h1.1, h1.2], rfl, by omega, by omega⟩, hb⟩

theorem own_last {w : World} {base g n c j : Nat} {e : TypeId} {xs : List Value} {v : Value} (h : w.ownsRow base e 1 (.slice (some ⟨g, 0, none⟩) n c) n (xs ++ [v])) (hl : xs.length = j) : w.cell? ⟨g, j, none⟩ = some v := by
  have := h.cellAt j (by have := h.1; simp at this; omega)
  rw [List.getElem?_append_right (by omega), hl, Nat.sub_self] at this
  exact this

set_option maxHeartbeats 8000000 in
theorem walk_ZigSum (w : World) (hT : Tab w) (A0 : Option Addr) (n0 c0 : Nat) (l : List Int) (hb : RI w w.heap.size .i64 A0 n0 l) (hn : n0 ≤ 17592186044416) (hr : ∀ x ∈ l, -9223372036854775808 ≤ x ∧ x ≤ 9223372036854775807) (_ : n0 ≤ c0)
    (a : Int) (ra : -9223372036854775808 ≤ a ∧ a ≤ 9223372036854775807) (b : Int) (rb : -9223372036854775808 ≤ b ∧ b ≤ 9223372036854775807) :
    Calls Tryd.prog 7 #[.slice A0 n0 c0, .int .i64 a, .int .i64 b] w fun e w' => e = .returned (.bool true) ∧ Below w.heap.size w w' := by
  have HL := Lib.hid hb.len
  have h0 := hT.lt
  obtain ⟨x, hx⟩ : ∃ x, x = a / 32 := ⟨_, rfl⟩
  obtain ⟨y, hy⟩ : ∃ y, y = b / 32 := ⟨_, rfl⟩
  have sx : -288230376151711744 ≤ x ∧ x < 288230376151711744 := by omega
  have sy : -288230376151711744 ≤ y ∧ y < 288230376151711744 := by omega
  have HX := Lib.hid hx
  have HY := Lib.hid hy
  have HR := Lib.hid hr
  clear hx hy ra rb hr
  go_enter Tryd.func7, Tryd.ntmps7
  go_wp2
  go_loopw [7, 8, 9] (fun v s i wr => ∃ (j N : Nat), j ≤ n0 ∧ j ≤ 60 ∧ i = .int .i64 j ∧ s = .int .i64 N ∧ N ≤ 63 * j ∧ Hid (N = (encB (smalls l j)).length) ∧ wr.ownsRow w.heap.size 3 1 v j ((smalls l j).map (Value.int .i64)) ∧ Below w.heap.size w wr) (fun _ _ i _ => 60 - (intOf i).toNat)
  case atStart => exact ⟨0, 0, Nat.zero_le _, by decide, rfl, rfl, by decide, rfl, World.ownsRow_nil _ _ _ _, Below.refl _ _⟩
  case round =>
    obtain ⟨j, N, hj, hj6, rfl, rfl, hN, HN, hown, hbel⟩ := hrel
    have hsz := hbel.size
    by_cases hlt : j < n0
    · by_cases h6 : j < 60
      · obtain ⟨bb, o, q, rfl, _, hcell, HQ, hmem⟩ := (hb.below hbel).val hlt
        have hq := HR.out q hmem
        go_wp2_with fail
        refine (keep_Small q (q / 32) _ rfl).mono ?_
        rintro e w' ⟨rfl, rfl⟩
        go_wp2_with (at_builtin; go_must (refine app_lit eltInt _ rfl _ _ rfl w.heap.size _ _ _ rfl (by exact hown) 1 [_] _ rfl rfl rfl (one1 _ _) (by omega) (by omega) hsz ?_); intro v' w3 hown3 _ hbel3 _; obtain ⟨g, cp, rfl, _, _, _⟩ := own_some hown3 (by omega); have hcl := own_last hown3 (j := j) (by rw [List.length_map]; exact smalls_len (by rw [HL.out]; omega)))
        have hbelA := hbel3 w hbel
        refine (zig_SizeS (q / 32) _ (hT.below hbelA h0) (by omega)).mono ?_
        rintro e w4 ⟨⟨s, rfl, HS, s0, s1⟩, hb4⟩
        go_wp2
        go_roundw
        case rel =>
          refine ⟨j + 1, N + zsize (zfold (q / 32)), by omega, by omega, by go_num, ?_, ?_, ?_, ?_, hbelA.trans (hb4.mono hbelA.size)⟩
          · rw [HS.out]; go_num
          · have := HS.out; omega
          · show _ = _
            rw [smalls_snoc HQ.out, encB_snoc, List.length_append, ← HN.out, zbits_len]
          · rw [smalls_snoc HQ.out, List.map_append]
            exact own_below hown3 hb4
        case measure => simp [intOf]; omega
      · have HS := Lib.hid (smalls_ok HR.out j)
        have HE := Lib.hid (enc_smalls HS.out (by rw [smalls_len (by rw [HL.out]; omega)]; omega))
        obtain ⟨U, ku, rfl, _⟩ := own_form hown
        have hri : RI wr wr.heap.size .i64 U j (smalls l j) := Rd.of_own hown
        go_wp2_with fail
        refine (zig_Encode (smalls l j) U j ku wr (hT.below hbel h0) hri (by omega) (fun x hx => by have := HS.out x hx; unfold Small at this; omega)).mono ?_
        rintro e w1 ⟨v1, rfl, hown1, hbel1⟩
        rw [HE.out.1, HE.out.2] at *
        have hbelA : Below w.heap.size w w1 := hbel.trans (hbel1.mono hsz)
        obtain ⟨B1, k1, rfl, _⟩ := own_form hown1
        have hlen := packB_len (encB (smalls l j))
        rw [← HN.out] at hlen
        generalize (packB (encB (smalls l j))).length = nb at *
        clear hown1 hbel1 hown
        go_wp2_with fail
        refine (keep_Small a x _ HX.out).mono ?_
        rintro e w' ⟨rfl, rfl⟩
        go_wp2_with fail
        refine (keep_Small b y _ HY.out).mono ?_
        rintro e w' ⟨rfl, rfl⟩
        go_wp2_with fail
        refine (zig_SizeS x _ (hT.below hbelA h0) sx).mono ?_
        rintro e w2 ⟨⟨s, rfl, HSx, s0, s1⟩, hb2⟩
        have hbelB : Below w.heap.size w w2 := hbelA.trans (hb2.mono hbelA.size)
        go_wp2_with fail
        refine (zig_SizeS y _ (hT.below hbelB h0) sy).mono ?_
        rintro e w3 ⟨⟨t, rfl, HSy, t0, t1⟩, hb3⟩
        have hbelC : Below w.heap.size w w3 := hbelB.trans (hb3.mono hbelB.size)
        go_wp2_with fail
        refine (zig_SizeS 0 _ (hT.below hbelC h0) (by decide)).mono ?_
        rintro e w4 ⟨⟨z, rfl, HSz, z0, z1⟩, hb4⟩
        have hbelD : Below w.heap.size w w4 := hbelC.trans (hb4.mono hbelC.size)
        obtain rfl : z = 1 := by rw [HSz.out]; decide
        clear hb2 hb3 hb4 hbelA hbelB hbelC hri HE HN HS
        have hq : ((nb : Int) != (((N : Int) + 7) / 8)) = false := by simp; omega
        rcases (by omega : x < 0 ∨ ¬ x < 0) with cx | cx <;> rcases (by omega : y < 0 ∨ ¬ y < 0) with cy | cy
        · have HF := Lib.hid (show (-x) < (-y) → s ≤ t from fun h => by rw [HSx.out, HSy.out]; exact Int.ofNat_le.2 (size_near (-x) (-y) (by split <;> omega) (by split <;> omega) h))
          clear HSx HSy
          by_cases hc : (-x) < (-y)
          · have hst := HF.out hc
            go_wp2
            go_ret
            exact ⟨rfl, hbelD⟩
          · go_wp2
            go_ret
            exact ⟨rfl, hbelD⟩
        · have HF := Lib.hid (show (-x) < y → s ≤ t from fun h => by rw [HSx.out, HSy.out]; exact Int.ofNat_le.2 (size_near (-x) y (by split <;> omega) (by split <;> omega) h))
          clear HSx HSy
          by_cases hc : (-x) < y
          · have hst := HF.out hc
            go_wp2
            go_ret
            exact ⟨rfl, hbelD⟩
          · go_wp2
            go_ret
            exact ⟨rfl, hbelD⟩
        · have HF := Lib.hid (show x < (-y) → s ≤ t from fun h => by rw [HSx.out, HSy.out]; exact Int.ofNat_le.2 (size_near x (-y) (by split <;> omega) (by split <;> omega) h))
          clear HSx HSy
          by_cases hc : x < (-y)
          · have hst := HF.out hc
            go_wp2
            go_ret
            exact ⟨rfl, hbelD⟩
          · go_wp2
            go_ret
            exact ⟨rfl, hbelD⟩
        · have HF := Lib.hid (show x < y → s ≤ t from fun h => by rw [HSx.out, HSy.out]; exact Int.ofNat_le.2 (size_near x y (by split <;> omega) (by split <;> omega) h))
          clear HSx HSy
          by_cases hc : x < y
          · have hst := HF.out hc
            go_wp2
            go_ret
            exact ⟨rfl, hbelD⟩
          · go_wp2
            go_ret
            exact ⟨rfl, hbelD⟩
    · have HS := Lib.hid (smalls_ok HR.out j)
      have HE := Lib.hid (enc_smalls HS.out (by rw [smalls_len (by rw [HL.out]; omega)]; omega))
      obtain ⟨U, ku, rfl, _⟩ := own_form hown
      have hri : RI wr wr.heap.size .i64 U j (smalls l j) := Rd.of_own hown
      go_wp2_with fail
      refine (zig_Encode (smalls l j) U j ku wr (hT.below hbel h0) hri (by omega) (fun x hx => by have := HS.out x hx; unfold Small at this; omega)).mono ?_
      rintro e w1 ⟨v1, rfl, hown1, hbel1⟩
      rw [HE.out.1, HE.out.2] at *
      have hbelA : Below w.heap.size w w1 := hbel.trans (hbel1.mono hsz)
      obtain ⟨B1, k1, rfl, _⟩ := own_form hown1
      have hlen := packB_len (encB (smalls l j))
      rw [← HN.out] at hlen
      generalize (packB (encB (smalls l j))).length = nb at *
      clear hown1 hbel1 hown
      go_wp2_with fail
      refine (keep_Small a x _ HX.out).mono ?_
      rintro e w' ⟨rfl, rfl⟩
      go_wp2_with fail
      refine (keep_Small b y _ HY.out).mono ?_
      rintro e w' ⟨rfl, rfl⟩
      go_wp2_with fail
      refine (zig_SizeS x _ (hT.below hbelA h0) sx).mono ?_
      rintro e w2 ⟨⟨s, rfl, HSx, s0, s1⟩, hb2⟩
      have hbelB : Below w.heap.size w w2 := hbelA.trans (hb2.mono hbelA.size)
      go_wp2_with fail
      refine (zig_SizeS y _ (hT.below hbelB h0) sy).mono ?_
      rintro e w3 ⟨⟨t, rfl, HSy, t0, t1⟩, hb3⟩
      have hbelC : Below w.heap.size w w3 := hbelB.trans (hb3.mono hbelB.size)
      go_wp2_with fail
      refine (zig_SizeS 0 _ (hT.below hbelC h0) (by decide)).mono ?_
      rintro e w4 ⟨⟨z, rfl, HSz, z0, z1⟩, hb4⟩
      have hbelD : Below w.heap.size w w4 := hbelC.trans (hb4.mono hbelC.size)
      obtain rfl : z = 1 := by rw [HSz.out]; decide
      clear hb2 hb3 hb4 hbelA hbelB hbelC hri HE HN HS
      have hq : ((nb : Int) != (((N : Int) + 7) / 8)) = false := by simp; omega
      rcases (by omega : x < 0 ∨ ¬ x < 0) with cx | cx <;> rcases (by omega : y < 0 ∨ ¬ y < 0) with cy | cy
      · have HF := Lib.hid (show (-x) < (-y) → s ≤ t from fun h => by rw [HSx.out, HSy.out]; exact Int.ofNat_le.2 (size_near (-x) (-y) (by split <;> omega) (by split <;> omega) h))
        clear HSx HSy
        by_cases hc : (-x) < (-y)
        · have hst := HF.out hc
          go_wp2
          go_ret
          exact ⟨rfl, hbelD⟩
        · go_wp2
          go_ret
          exact ⟨rfl, hbelD⟩
      · have HF := Lib.hid (show (-x) < y → s ≤ t from fun h => by rw [HSx.out, HSy.out]; exact Int.ofNat_le.2 (size_near (-x) y (by split <;> omega) (by split <;> omega) h))
        clear HSx HSy
        by_cases hc : (-x) < y
        · have hst := HF.out hc
          go_wp2
          go_ret
          exact ⟨rfl, hbelD⟩
        · go_wp2
          go_ret
          exact ⟨rfl, hbelD⟩
      · have HF := Lib.hid (show x < (-y) → s ≤ t from fun h => by rw [HSx.out, HSy.out]; exact Int.ofNat_le.2 (size_near x (-y) (by split <;> omega) (by split <;> omega) h))
        clear HSx HSy
        by_cases hc : x < (-y)
        · have hst := HF.out hc
          go_wp2
          go_ret
          exact ⟨rfl, hbelD⟩
        · go_wp2
          go_ret
          exact ⟨rfl, hbelD⟩
      · have HF := Lib.hid (show x < y → s ≤ t from fun h => by rw [HSx.out, HSy.out]; exact Int.ofNat_le.2 (size_near x y (by split <;> omega) (by split <;> omega) h))
        clear HSx HSy
        by_cases hc : x < y
        · have hst := HF.out hc
          go_wp2
          go_ret
          exact ⟨rfl, hbelD⟩
        · go_wp2
          go_ret
          exact ⟨rfl, hbelD⟩

theorem own_ZigSum : ownKnob Tryd.prog.godebug = none := by kernel_rfl
theorem laid_ZigSum : laidOutB Tryd.prog = true := by kernel_rfl
set_option maxRecDepth 100000 in
theorem lifted_ZigSum (os : Os) (started : os.Started) (H : Type) (enc : TypeId × Value → H) :
    ReturnsInHanded {} Tryd.checked os 7 .any (fun w args => (Rows.zigSumSpec.pre enc Tryd.prog Tryd.f7 [] false w args ∧ laidMetH Tryd.prog laidL w) ∧ sizedMet enc Tryd.prog Tryd.f7 (OpenSpec.ofChange Rows.zigSumSpec) false w args)
      (Rows.zigSumSpec.post enc Tryd.prog Tryd.f7 false true false false) := by
  refine returnsInHanded_of_change_and (C := Tryd.checked) (X := fun w _ => laidMetH Tryd.prog laidL w) (fun _ _ _ hh h => h.of_heap hh) own_ZigSum started (by kernel_rfl) Tryd.func7
    (ChangeSpec.witness_shaped (enc := enc) (C := Tryd.checked) (os := os) (X := fun w _ => laidMetH Tryd.prog laidL w) false (World.doorLaid Tryd.prog 400 os) #[.slice none 0 0, .int .i64 0, .int .i64 0] 8 rfl (World.shaped_of_RefB (by kernel_rfl) (by kernel_rfl)) (by kernel_rfl) (by kernel_rfl) (by kernel_rfl) (door_met os _)) ?_
  intro W base args ds gs before hval0 hW hcnd hsz0 hL _
  have hsz : (DataW.weightsEach Tryd.prog (Tryd.f7.params.toList ++ Rows.zigSumSpec.plain.varTypes Tryd.prog) (ds ++ gs)).all (· ≤ reachBytes) = true := hsz0
  clear hsz0
  have hval : ∀ (j : Nat) t v, Tryd.f7.params[j]? = some t → args[j]? = some v → Value.okWide Tryd.prog W .any base t v := hval0
  have hW' := hW
  obtain ⟨p, q, hA0, hV, rfl, hfz, hnd⟩ := hW
  have hA : DataW.TrodAll enc Tryd.prog W 0 (fun _ => true) true Tryd.f7.params.toList args.toList ds p := hA0
  rw [Tryd.params7] at hA hval hsz
  obtain ⟨v0, vs0, d0, ds0, p0, q0, hargs, rfl, rfl, h0, r0⟩ := trodAll_cons hA
  obtain ⟨v1, vs1, d1, ds1, p1, q1, rfl, rfl, rfl, h1, r1⟩ := trodAll_cons r0
  obtain ⟨v2, vs2, d2, ds2, p2, q2, rfl, rfl, rfl, h2, r2⟩ := trodAll_cons r1
  obtain ⟨rfl, rfl, rfl⟩ := trodAll_nil r2
  obtain rfl : args = #[v0, v1, v2] := by cases args; simp_all
  obtain ⟨rfl, rfl⟩ := trodVars_none hV
  have k0 := h0
  have lt0 : ∀ x ∈ p0, x.block < W.heap.size := by obtain ⟨m, hm⟩ := k0; exact DataW.trod_lt m _ _ _ hm
  obtain ⟨a0, len0, cap0, rfl⟩ := okWide_slice Tryd.underlying26 (hval 0 26 v0 rfl rfl)
  obtain ⟨x0, ri0, wx0, lc0, hd0⟩ := open_RI Tryd.underlying26 Tryd.underlying3 (by kernel_rfl) h0
  have bd0 : len0 ≤ 17592186044416 := by
    rcases hd0 with ⟨h, _⟩ | ⟨el, sp, hd, hl⟩
    · omega
    · subst hd
      have := sized_slice hsz (j := 0) (t := 26) (e := 3) rfl rfl Tryd.underlying26
      rw [show Tryd.prog.bytesOf 3 = 8 by kernel_rfl] at this
      simp only [reachBytes] at this
      omega
  have rr0 : ∀ x ∈ x0, -9223372036854775808 ≤ x ∧ x ≤ 9223372036854775807 := fun x hx => bounds_i64 (wx0 x hx)
  have k1 := h1
  have lt1 : ∀ x ∈ p1, x.block < W.heap.size := by obtain ⟨m, hm⟩ := k1; exact DataW.trod_lt m _ _ _ hm
  obtain ⟨x1, rfl, rfl, rfl, wx1⟩ := open_int Tryd.underlying3 (hval 1 3 v1 rfl rfl) h1
  have rr1 := bounds_i64 wx1
  have k2 := h2
  have lt2 : ∀ x ∈ p2, x.block < W.heap.size := by obtain ⟨m, hm⟩ := k2; exact DataW.trod_lt m _ _ _ hm
  obtain ⟨x2, rfl, rfl, rfl, wx2⟩ := open_int Tryd.underlying3 (hval 2 3 v2 rfl rfl) h2
  have rr2 := bounds_i64 wx2
  clear hA0 hval0 hsz
  refine (walk_ZigSum W (of_laid hL) a0 len0 cap0 x0 ri0 bd0 rr0 lc0 x1 rr1 x2 rr2).mono fun e W' ⟨he, bel⟩ => ?_
  subst he
  exact ⟨_, rfl, _, _, _, [], _, [], hW', trodAll_mk1 (shut_bool Tryd.underlying4 _), (trodAll_cons_mk (Below.trod laid_ZigSum (by kernel_rfl) (of_decide_eq_true (by kernel_rfl)) k0 bel lt0) (trodAll_cons_mk (Below.trod laid_ZigSum (by kernel_rfl) (of_decide_eq_true (by kernel_rfl)) k1 bel lt1) (trodAll_cons_mk (Below.trod laid_ZigSum (by kernel_rfl) (of_decide_eq_true (by kernel_rfl)) k2 bel lt2) trodAll_mk0))), rfl, bel.frame _, fun h => by cases h⟩

theorem zigSum_holds : Rows.ZigSumSaid :=
  OpenClaim.holds_of_wide 7 Tryd.f7 rfl rfl rfl rfl rfl rfl rfl ⟨rfl, rfl, rfl, rfl, rfl⟩ rfl rfl rfl rfl rfl (by kernel_rfl) Tryd.func7 (by kernel_rfl)
    (of_decide_eq_true (by kernel_rfl)) (by unfold Func.isWrapper; first | (rw [if_pos (by decide +kernel)]; kernel_rfl) | (rw [if_neg (by decide +kernel)]; exact ⟨rfl, rfl⟩))
    (fun os started H enc _ => lifted_ZigSum os started H enc)

theorem zigSum_card : Rows.ZigSumCardSaid :=
  Claim7.holds_tied_plain_at .later [] [.data] true (true, "72ccef4971c2cb35025201605496faadfdd4d9e9d5d238c1c4d2f65cbf014011") false
    zigSum_holds (fun _ h => by cases h) (by kernel_rfl) (fun _ h => by cases h) zigSum_row_tie rfl ⟨rfl, rfl⟩ (by kernel_rfl) rfl
    (fun f fn hf hfn => by
      obtain rfl : f = 7 := Option.some.inj ((show Tryd.prog.funcNamed "barograph/barographkeep.ZigSum" = some 7 by kernel_rfl).symm.trans hf) |>.symm
      obtain rfl : fn = Tryd.f7 := (Option.some.inj (Tryd.func7.symm.trans hfn)).symm
      exact ⟨by kernel_rfl, fun j t ht => by
        rw [Tryd.params7] at ht
        have hm : t ∈ [26, 3, 3] := by simpa using Array.mem_of_getElem? ht
        have hall : ([26, 3, 3].all fun u => !Tryd.prog.wantsStandIn u) = true := by kernel_rfl
        exact (show Tryd.prog.wantsStandIn t = false by simpa using List.all_eq_true.1 hall t hm)⟩)
    (by kernel_rfl)
#print axioms zigSum_card
end Go.Proofs.YtjpdbcohkfchpaaDoor
