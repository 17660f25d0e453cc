/- A run is its beginning, and what comes behind it: the statement's call returns true, for every input, and leaves what was there as it was. The table of operands is as the package lays it. No condition but that each slice takes at most 2^47 - 4096 bytes. -/
import Derived.Test.YtjihopbapnfppaaDoorKeepVm
set_option linter.unusedSimpArgs false
set_option linter.unusedVariables false
namespace Go.Proofs.YtjihopbapnfppaaDoor
open Go.ChangeShapes Go.WideShapes Go.ChangeAt Go.RowKit Go.Ord Go.Baro

/-- The arguments as they are drawn. -/
def asL (x : List Int) : List Int := (x.take 4).map (· % 9)
theorem asL_len (x : List Int) : (asL x).length ≤ 4 := by simp [asL]; omega
theorem asL_in (x : List Int) : ∀ y ∈ asL x, inW y := by
  intro y hy
  obtain ⟨z, _, rfl⟩ := List.mem_map.1 hy
  unfold inW; omega

theorem made6 (f : Int → Int) (x : List Int) : (madeCells (Value.int .i64 0).cells (6 * 1)).toList = (wsJ f x 0).map (Value.int .i64) := by
  rw [madeCells_one _ rfl]; simp [wsJ]
theorem own_base {w : World} {b g : Nat} {e : TypeId} {n c m : Nat} {xs : List Value} (h : w.ownsRow b e 1 (.slice (some ⟨g, 0, none⟩) n c) m xs) : w.ownsRow g e 1 (.slice (some ⟨g, 0, none⟩) n c) m xs := by
  refine ⟨h.1, ?_⟩
  rcases h.2 with h | ⟨g', cap, cur, h1, h2, h3⟩
  · exact .inl h
  · refine .inr ⟨g', cap, cur, h1, ?_, h3⟩
    simp only [Value.slice.injEq, Option.some.injEq, Addr.mk.injEq, and_true] at h1
    omega

set_option maxRecDepth 100000 in
set_option maxHeartbeats 8000000 in
theorem keep_VmSteps (w : World) (hT : Tab w) (A0 : Option Addr) (n0 c0 : Nat) (x0 : List Ins) (h0 : RO w w.heap.size A0 n0 x0) (b0 : n0 ≤ 3518437208883) (r0 : ∀ f ∈ x0, inI f) (_ : n0 ≤ c0)
    (A1 : Option Addr) (n1 c1 : Nat) (x1 : List Int) (h1 : RI w w.heap.size .i64 A1 n1 x1) (b1 : n1 ≤ 17592186044416) (r1 : ∀ x ∈ x1, -9223372036854775808 ≤ x ∧ x ≤ 9223372036854775807) (_ : n1 ≤ c1)
    (A2 : Option Addr) (n2 c2 : Nat) (x2 : List Int) (h2 : RI w w.heap.size .i64 A2 n2 x2) (b2 : n2 ≤ 17592186044416) (r2 : ∀ x ∈ x2, -9223372036854775808 ≤ x ∧ x ≤ 9223372036854775807) (_ : n2 ≤ c2)
    (x3 : Int) (r3 : -9223372036854775808 ≤ x3 ∧ x3 ≤ 9223372036854775807) (x4 : Int) (r4 : -9223372036854775808 ≤ x4 ∧ x4 ≤ 9223372036854775807) :
    Calls Tryd.prog 5 #[.slice A0 n0 c0, .slice A1 n1 c1, .slice A2 n2 c2, .int .i64 x3, .int .i64 x4] w fun e w' => e = .returned (.bool true) ∧ Below w.heap.size w w' := by
  have HL1 := Lib.hid h1.len
  have HL2 := Lib.hid h2.len
  have hlt := hT.lt
  obtain ⟨X, hX⟩ : ∃ X : Nat, x3 % 300 = X := ⟨(x3 % 300).toNat, by omega⟩
  obtain ⟨Y, hY⟩ : ∃ Y : Nat, x4 % 300 = Y := ⟨(x4 % 300).toNat, by omega⟩
  have hXb : X < 300 := by omega
  have hYb : Y < 300 := by omega
  obtain ⟨Z, hZ⟩ : ∃ Z : Nat, Z = X + Y := ⟨_, rfl⟩
  have hXZ : X ≤ Z := by omega
  have hZb : Z < 600 := by omega
  have HX := Lib.hid hX
  have HZ := Lib.hid (show (X : Int) + x4 % 300 = (Z : Int) by omega)
  obtain ⟨T1, W1, N1, E1, hR1⟩ : ∃ T W N E, (T, W, N, E) = vmR (kC x0) (asL x1) (wsL (· % 9) x2) X := ⟨_, _, _, _, rfl⟩
  obtain ⟨T2, W2, N2, E2, hR2⟩ : ∃ T W N E, (T, W, N, E) = vmR (kC x0) (asL x1) (wsL (· % 9) x2) Z := ⟨_, _, _, _, rfl⟩
  have hfacts : T1 <+: T2 ∧ N1 ≤ N2 ∧ N1 ≤ X ∧ N2 ≤ Z ∧ (E1 = 11 → N1 = X) ∧ (E1 ≠ 11 → T1 = T2 ∧ N1 = N2 ∧ E1 = E2) := by
    have e1 := hR1
    have e2 := hR2
    rw [vmR_ok (kC_ok x0) (by have := asL_len x1; omega) (by rw [wsL_len]; omega) (by omega)] at e1 e2
    simp only [Prod.mk.injEq] at e1 e2
    obtain ⟨i1, i2, i3, i4, i5⟩ := rn_mono (kC x0) X Z (st0 (asL x1) (wsL (· % 9) x2)) (by omega)
    obtain ⟨_, _, i6, _, _⟩ := rn_mono (kC x0) Z Z (st0 (asL x1) (wsL (· % 9) x2)) (Nat.le_refl _)
    rw [← e1.1, ← e2.1] at i1
    rw [← e1.2.2.1, ← e2.2.2.1] at i2
    rw [← e1.2.2.1] at i3 i4
    rw [← e2.2.2.1] at i6
    rw [← e1.2.2.2] at i4 i5
    refine ⟨i1, i2, i3, i6, i4, fun h => ?_⟩
    have i7 := i5 h
    rw [e1.1, e2.1, e1.2.2.1, e2.2.2.1, e1.2.2.2, e2.2.2.2, i7]
    exact ⟨rfl, rfl, rfl⟩
  have hpre : T2.take T1.length = T1 := (List.prefix_iff_eq_take.1 hfacts.1).symm
  have hple : T1.length ≤ T2.length := hfacts.1.length_le
  obtain ⟨_, f1, f2, f3, f4, f5⟩ := hfacts
  have HPRE := Lib.hid hpre
  have HPLE := Lib.hid hple
  have HF4 := Lib.hid f4
  have HF5 := Lib.hid f5
  have HR1 := Lib.hid hR1
  have HR2 := Lib.hid hR2
  clear hX hY hZ hR1 hR2 hpre hple f4 f5 r0 r1 r2 r3 r4
  go_enter Tryd.func5, Tryd.ntmps5
  go_wp2_with fail
  refine (keep_CodeOf x0 A0 n0 c0 w h0 b0).mono ?_
  rintro e w1 ⟨A3, n3, c3, rfl, hro, hl3, hn3, hb1⟩
  have hs1 := hb1.size
  go_wp2
  go_loopw [12, 13] (fun v i wr => ∃ j : Nat, j ≤ n1 ∧ j ≤ 4 ∧ i = .int .i64 j ∧ wr.ownsRow w1.heap.size 3 1 v j (((x1.take j).map (· % 9)).map (Value.int .i64)) ∧ Below w1.heap.size w1 wr) (fun _ i _ => 4 - (intOf i).toNat)
  case atStart => exact ⟨0, Nat.zero_le _, by omega, rfl, World.ownsRow_nil _ _ _ _, Below.refl _ _⟩
  case round =>
    obtain ⟨j, hj, hj4, rfl, hown, hbel⟩ := hrel
    have hsz := hbel.size
    have hbw := hb1.trans (hbel.mono hs1)
    by_cases hin : j < 4 ∧ j < n1
    · obtain ⟨hi4, hin1⟩ := hin
      obtain ⟨b, o, x, rfl, hbB, hcell, HXX, hmem⟩ := (h1.below hbw).val hin1
      go_wp2_with (first
        | (go_at_call 21; refine (keep_Picked _ _ _ (by omega) (by omega)).mono ?_; rintro e w' ⟨rfl, rfl⟩)
        | (at_builtin; go_must (refine app_lit eltInt _ rfl _ _ rfl w1.heap.size _ j _ rfl hown 1 [.int .i64 (x % 9)] _ rfl rfl rfl (by simp [Value.oneCell']) (by omega) (by omega) hsz ?_); intro v3 w3 hown3 hgr3 hbel3 _))
      go_roundw
      case rel =>
        refine ⟨j + 1, by omega, by omega, by go_num, ?_, hbel3 _ hbel⟩
        rw [at_take HXX.out, List.map_append, List.map_append]
        exact hown3
      case measure => simp [intOf]; omega
    · obtain ⟨wo, rfl⟩ : ∃ wo, wo = wr := ⟨wr, rfl⟩
      have HAS : Hid ((x1.take j).map (· % 9) = asL x1) := by
        show _ = _
        unfold asL
        by_cases h4 : j = 4
        · rw [h4]
        · have hjn : j = n1 := by omega
          rw [List.take_of_length_le (by rw [HL1.out]; omega), List.take_of_length_le (by rw [HL1.out]; omega)]
      obtain ⟨A4, c4, rfl, hl4⟩ := own_form hown
      have hra := Rd.of_own hown
      rw [HAS.out] at hra
      have hra' : RI wo wo.heap.size .i64 A4 j (asL x1) := hra
      clear hra hown
      rcases (by omega : ¬ j < 4 ∨ (j < 4 ∧ ¬ j < n1)) with hx | hx
      all_goals
        go_wp2_with (at_make; refine make_all eltInt _ rfl _ _ rfl w1.heap.size _ _ _ _ 6 rfl rfl rfl rfl (by omega) (by omega) hsz ?_; intro w2 hown2 hbel2 hsz2 hgr2)
        have hb2 : Below wo.heap.size wo w2 := (Below.refl _ _).grown hgr2 (Nat.le_refl _) (fun k hk => by cases hk)
        have hs2 := hb2.size
        have hra2 := (hra'.below hb2)
        have hown3 : w2.ownsRow wo.heap.size 3 1 (.slice (some ⟨wo.heap.size, 0, none⟩) 6 6) 6 ((wsJ (· % 9) x2 0).map (Value.int .i64)) := by
          have := own_base hown2
          rw [made6 (· % 9) x2] at this
          exact this
        clear hown2 hbel2 hgr2
        go_loopw [15] (fun i w5 => ∃ j2 : Nat, j2 ≤ n2 ∧ j2 ≤ 6 ∧ i = .int .i64 j2 ∧ w5.ownsRow wo.heap.size 3 1 (.slice (some ⟨wo.heap.size, 0, none⟩) 6 6) 6 ((wsJ (· % 9) x2 j2).map (Value.int .i64)) ∧ Below wo.heap.size wo w5) (fun i _ => 6 - (intOf i).toNat)
        case atStart => exact ⟨0, Nat.zero_le _, by omega, rfl, hown3, hb2⟩
        case round =>
          obtain ⟨w5, rfl⟩ : ∃ w5, w5 = wr := ⟨wr, rfl⟩
          obtain ⟨j2, hj2, hj26, rfl, hown5, hbel5⟩ := hrel
          have hsz5 := hbel5.size
          have hb05 : Below w.heap.size w w5 := hbw.trans (hbel5.mono hbw.size)
          by_cases hin2 : j2 < 6 ∧ j2 < n2
          · obtain ⟨hi6, hin22⟩ := hin2
            obtain ⟨b, o, x, rfl, hbB, hcell, HXX, hmem⟩ := (h2.below hb05).val hin22
            have hcw := hown5.cellAt j2 (by omega)
            rw [List.getElem?_map, List.getElem?_eq_getElem (by rw [wsJ_len (by rw [HL2.out]; omega) hj26]; omega), Option.map_some] at hcw
            have hfw := hown5.frozenAt j2
            have hlw := block_lt' hcw
            have hst := World.ownsRow.stored hown5 j2 (.int .i64 (x % 9))
            have HST := Lib.hid hst
            clear hst
            go_wp2_with (go_at_call 21; refine (keep_Picked _ _ _ (by omega) (by omega)).mono ?_; rintro e w' ⟨rfl, rfl⟩)
            go_roundw
            case rel =>
              refine ⟨j2 + 1, by omega, by omega, by go_num, ?_, below_set hbel5 HST.out.2 (Nat.le_refl _) hsz5⟩
              have := HST.out.1
              rw [← List.map_set, wsJ_step (f := (· % 9)) HXX.out hi6] at this
              exact this
            case measure => simp [intOf]; omega
          · have HWS : Hid (wsJ (· % 9) x2 j2 = wsL (· % 9) x2) := by
              show _ = _
              unfold wsL
              rw [HL2.out, show j2 = min 6 n2 by omega]
            have hrw := Rd.of_own hown5
            rw [HWS.out] at hrw
            have hrw' : RI w5 w5.heap.size .i64 (some ⟨wo.heap.size, 0, none⟩) 6 (wsL (· % 9) x2) := hrw
            have hra5 : RI w5 w5.heap.size .i64 A4 j (asL x1) := (hra'.below hbel5).more hsz5
            have hro5 : RO w5 w5.heap.size A3 n3 (kC x0) := ((hro.below (hbel.trans (hbel5.mono hsz))).more (by omega))
            have HWI := Lib.hid (wsL_in (f := (· % 9)) (x := x2) (fun y _ => by unfold inW; omega))
            clear hrw hown5 hown3
            rcases (by omega : ¬ j2 < 6 ∨ (j2 < 6 ∧ ¬ j2 < n2)) with hx2 | hx2
            all_goals
              go_wp2_with (go_at_call 21; refine (keep_Picked _ _ _ (by omega) (by omega)).mono ?_; rintro e w' ⟨rfl, rfl⟩)
              rw [HX.out]
              refine (vm_Run (kC x0) (asL x1) (wsL (· % 9) x2) X A3 A4 (some ⟨wo.heap.size, 0, none⟩) n3 c3 j c4 6 6 w5 (hT.below hb05 hlt) hro5 (by omega) (kC_in x0) hra5 (by omega) (asL_in x1) hrw' (by omega) HWI.out T1 W1 N1 E1 HR1.out).mono ?_
              rintro e w6 ⟨P1, p1, d1, P2, p2, d2, rfl, hq1, hq2, hl1', hl2', hm1, hm2, hb6⟩
              have hs6 := hb6.size
              have hb06 : Below w.heap.size w w6 := hb05.trans (hb6.mono hb05.size)
              go_wp2_with fail
              rw [HZ.out]
              refine (vm_Run (kC x0) (asL x1) (wsL (· % 9) x2) Z A3 A4 (some ⟨wo.heap.size, 0, none⟩) n3 c3 j c4 6 6 w6 (hT.below hb06 hlt) ((hro5.below hb6).more hs6) (by omega) (kC_in x0) ((hra5.below hb6).more hs6) (by omega) (asL_in x1) ((hrw'.below hb6).more hs6) (by omega) HWI.out T2 W2 N2 E2 HR2.out).mono ?_
              rintro e w7 ⟨Q1, q1, g1, Q2, q2, g2, rfl, hk1, hk2, hl3', hl4', hm3, hm4, hb7⟩
              have hs7 := hb7.size
              have hb07 : Below w.heap.size w w7 := hb06.trans (hb7.mono hb06.size)
              have hb57 : Below w5.heap.size w5 w7 := hb6.trans (hb7.mono hs6)
              go_wp2_with fail
              refine (vm_Run (kC x0) (asL x1) (wsL (· % 9) x2) Z A3 A4 (some ⟨wo.heap.size, 0, none⟩) n3 c3 j c4 6 6 w7 (hT.below hb07 hlt) ((hro5.below hb57).more hb57.size) (by omega) (kC_in x0) ((hra5.below hb57).more hb57.size) (by omega) (asL_in x1) ((hrw'.below hb57).more hb57.size) (by omega) HWI.out T2 W2 N2 E2 HR2.out).mono ?_
              rintro e w8 ⟨R1, u1, v1, R2, u2, v2, rfl, ho1, ho2, hl5', hl6', hm5, hm6, hb8⟩
              have hs8 := hb8.size
              have hb08 : Below w.heap.size w w8 := hb07.trans (hb8.mono hb07.size)
              have hb68 : Below w6.heap.size w6 w8 := hb7.trans (hb8.mono hs7)
              have HP1 := Lib.hid hq1.len
              have HQ1 := Lib.hid hk1.len
              have hpq : p1 ≤ q1 := by have := HP1.out; have := HQ1.out; have := HPLE.out; omega
              go_wp2_with fail
              refine (keep_vmSure w8 (hT.below hb08 hlt)).mono ?_
              rintro e w9 ⟨rfl, hb9⟩
              have hs9 := hb9.size
              have hb09 : Below w.heap.size w w9 := hb08.trans (hb9.mono hb08.size)
              have s1 : RI w9 w6.heap.size .i64 P1 p1 T1 := (hq1.below hb68).below (hb9.mono hb68.size)
              have s2 : RI w9 w7.heap.size .i64 Q1 q1 T2 := (hk1.below hb8).below (hb9.mono hs8)
              have s3 : RI w9 w7.heap.size .i64 Q2 q2 W2 := (hk2.below hb8).below (hb9.mono hs8)
              have s4 : RI w9 w8.heap.size .i64 R1 u1 T2 := ho1.below hb9
              have s5 : RI w9 w8.heap.size .i64 R2 u2 W2 := ho2.below hb9
              have s6 : RI w9 w7.heap.size .i64 Q1 p1 T1 := by
                have := s2.take hpq
                rw [← HP1.out, HPRE.out, HP1.out] at this
                exact this
              clear hq1 hq2 hk1 hk2 ho1 ho2 hb6 hb7 hb8 hb57 hb68
              go_wp2_with fail
              refine (keep_sameInts T1 T1 P1 Q1 p1 d1 p1 g1 w9 _ _ true s1 s6 (by simp) (by omega) (by omega)).mono ?_
              rintro e w10 ⟨rfl, k10, rfl⟩
              go_wp2_with fail
              refine (keep_sameInts T2 T2 Q1 R1 q1 g1 u1 v1 _ w7.heap.size w8.heap.size true (by exact s2.heap rfl) (by exact s4.heap rfl) (by simp) (by omega) (by omega)).mono ?_
              rintro e w11 ⟨rfl, k11, rfl⟩
              go_wp2_with fail
              refine (keep_sameInts W2 W2 Q2 R2 q2 g2 u2 v2 _ w7.heap.size w8.heap.size true (by exact s3.heap rfl) (by exact s5.heap rfl) (by simp) (by omega) (by omega)).mono ?_
              rintro e w12 ⟨rfl, k12, rfl⟩
              by_cases hE : E1 = 11
              · have hNX := HF4.out hE
                subst hE hNX
                go_wp2
                go_ret
                exact ⟨by simp, hb09.drewN _⟩
              · obtain ⟨e1, e2, e3⟩ := HF5.out hE
                have hv : (E1 == 11) = false := by simp [hE]
                subst e1 e2 e3
                go_wp2_with fail
                refine (keep_sameInts T1 T1 P1 Q1 p1 d1 q1 g1 _ w6.heap.size w7.heap.size true (by exact s1.heap rfl) (by exact s2.heap rfl) (by simp) (by omega) (by omega)).mono ?_
                rintro e w13 ⟨rfl, k13, rfl⟩
                go_wp2
                go_ret
                exact ⟨by simp, hb09.drewN _⟩

theorem own_VmSteps : ownKnob Tryd.prog.godebug = none := by kernel_rfl
theorem laid_VmSteps : laidOutB Tryd.prog = true := by kernel_rfl
set_option maxRecDepth 100000 in
theorem lifted_VmSteps (os : Os) (started : os.Started) (H : Type) (enc : TypeId × Value → H) :
    ReturnsInHanded {} Tryd.checked os 5 .any (fun w args => (Rows.vmStepsSpec.pre enc Tryd.prog Tryd.f5 [] false w args ∧ laidMetH Tryd.prog laidL w) ∧ sizedMet enc Tryd.prog Tryd.f5 (OpenSpec.ofChange Rows.vmStepsSpec) false w args)
      (Rows.vmStepsSpec.post enc Tryd.prog Tryd.f5 false true false false) := by
  refine returnsInHanded_of_change_and (C := Tryd.checked) (X := fun w _ => laidMetH Tryd.prog laidL w) (fun _ _ _ hh h => h.of_heap hh) own_VmSteps started (by kernel_rfl) Tryd.func5
    (ChangeSpec.witness_shaped (enc := enc) (C := Tryd.checked) (os := os) (X := fun w _ => laidMetH Tryd.prog laidL w) false (World.doorLaid Tryd.prog 400 os) #[.slice none 0 0, .slice none 0 0, .slice none 0 0, .int .i64 0, .int .i64 0] 8 rfl (World.shaped_of_RefB (by kernel_rfl) (by kernel_rfl)) (by kernel_rfl) (by kernel_rfl) (by kernel_rfl) (door_met os _)) ?_
  intro W base args ds gs before hval0 hW hcnd hsz0 hL _
  have hsz : (DataW.weightsEach Tryd.prog (Tryd.f5.params.toList ++ Rows.vmStepsSpec.plain.varTypes Tryd.prog) (ds ++ gs)).all (· ≤ reachBytes) = true := hsz0
  clear hsz0
  have hval : ∀ (j : Nat) t v, Tryd.f5.params[j]? = some t → args[j]? = some v → Value.okWide Tryd.prog W .any base t v := hval0
  have hW' := hW
  obtain ⟨p, q, hA0, hV, rfl, hfz, hnd⟩ := hW
  have hA : DataW.TrodAll enc Tryd.prog W 0 (fun _ => true) true Tryd.f5.params.toList args.toList ds p := hA0
  rw [Tryd.params5] at hA hval hsz
  obtain ⟨v0, vs0, d0, ds0, p0, q0, hargs, rfl, rfl, h0, r0⟩ := trodAll_cons hA
  obtain ⟨v1, vs1, d1, ds1, p1, q1, rfl, rfl, rfl, h1, r1⟩ := trodAll_cons r0
  obtain ⟨v2, vs2, d2, ds2, p2, q2, rfl, rfl, rfl, h2, r2⟩ := trodAll_cons r1
  obtain ⟨v3, vs3, d3, ds3, p3, q3, rfl, rfl, rfl, h3, r3⟩ := trodAll_cons r2
  obtain ⟨v4, vs4, d4, ds4, p4, q4, rfl, rfl, rfl, h4, r4⟩ := trodAll_cons r3
  obtain ⟨rfl, rfl, rfl⟩ := trodAll_nil r4
  obtain rfl : args = #[v0, v1, v2, v3, v4] := by cases args; simp_all
  obtain ⟨rfl, rfl⟩ := trodVars_none hV
  have k0 := h0
  have lt0 : ∀ x ∈ p0, x.block < W.heap.size := by obtain ⟨m, hm⟩ := k0; exact DataW.trod_lt m _ _ _ hm
  obtain ⟨a0, len0, cap0, rfl⟩ := okWide_slice Tryd.underlying30 (hval 0 30 v0 rfl rfl)
  obtain ⟨x0, ri0, rr0, lc0, hd0⟩ := open_RO Tryd.underlying30 Tryd.underlying80 (by kernel_rfl) Tryd.underlying3 (by kernel_rfl) (by kernel_rfl) h0
  have bd0 : len0 ≤ 3518437208883 := by
    rcases hd0 with ⟨h, _⟩ | ⟨el, sp, hd, hl⟩
    · omega
    · subst hd
      have := sized_slice hsz (j := 0) (t := 30) (e := 80) rfl rfl Tryd.underlying30
      rw [show Tryd.prog.bytesOf 80 = 40 by kernel_rfl] at this
      simp only [reachBytes] at this
      omega
  have k1 := h1
  have lt1 : ∀ x ∈ p1, x.block < W.heap.size := by obtain ⟨m, hm⟩ := k1; exact DataW.trod_lt m _ _ _ hm
  obtain ⟨a1, len1, cap1, rfl⟩ := okWide_slice Tryd.underlying24 (hval 1 24 v1 rfl rfl)
  obtain ⟨x1, ri1, wx1, lc1, hd1⟩ := open_RI Tryd.underlying24 Tryd.underlying3 (by kernel_rfl) h1
  have bd1 : len1 ≤ 17592186044416 := by
    rcases hd1 with ⟨h, _⟩ | ⟨el, sp, hd, hl⟩
    · omega
    · subst hd
      have := sized_slice hsz (j := 1) (t := 24) (e := 3) rfl rfl Tryd.underlying24
      rw [show Tryd.prog.bytesOf 3 = 8 by kernel_rfl] at this
      simp only [reachBytes] at this
      omega
  have rr1 : ∀ x ∈ x1, -9223372036854775808 ≤ x ∧ x ≤ 9223372036854775807 := fun x hx => bounds_i64 (wx1 x hx)
  have k2 := h2
  have lt2 : ∀ x ∈ p2, x.block < W.heap.size := by obtain ⟨m, hm⟩ := k2; exact DataW.trod_lt m _ _ _ hm
  obtain ⟨a2, len2, cap2, rfl⟩ := okWide_slice Tryd.underlying24 (hval 2 24 v2 rfl rfl)
  obtain ⟨x2, ri2, wx2, lc2, hd2⟩ := open_RI Tryd.underlying24 Tryd.underlying3 (by kernel_rfl) h2
  have bd2 : len2 ≤ 17592186044416 := by
    rcases hd2 with ⟨h, _⟩ | ⟨el, sp, hd, hl⟩
    · omega
    · subst hd
      have := sized_slice hsz (j := 2) (t := 24) (e := 3) rfl rfl Tryd.underlying24
      rw [show Tryd.prog.bytesOf 3 = 8 by kernel_rfl] at this
      simp only [reachBytes] at this
      omega
  have rr2 : ∀ x ∈ x2, -9223372036854775808 ≤ x ∧ x ≤ 9223372036854775807 := fun x hx => bounds_i64 (wx2 x hx)
  have k3 := h3
  have lt3 : ∀ x ∈ p3, x.block < W.heap.size := by obtain ⟨m, hm⟩ := k3; exact DataW.trod_lt m _ _ _ hm
  obtain ⟨x3, rfl, rfl, rfl, wx3⟩ := open_int Tryd.underlying3 (hval 3 3 v3 rfl rfl) h3
  have rr3 := bounds_i64 wx3
  have k4 := h4
  have lt4 : ∀ x ∈ p4, x.block < W.heap.size := by obtain ⟨m, hm⟩ := k4; exact DataW.trod_lt m _ _ _ hm
  obtain ⟨x4, rfl, rfl, rfl, wx4⟩ := open_int Tryd.underlying3 (hval 4 3 v4 rfl rfl) h4
  have rr4 := bounds_i64 wx4
  clear hA0 hval0 hsz
  refine (keep_VmSteps W (of_laid hL) a0 len0 cap0 x0 ri0 bd0 rr0 lc0 a1 len1 cap1 x1 ri1 bd1 rr1 lc1 a2 len2 cap2 x2 ri2 bd2 rr2 lc2 x3 rr3 x4 rr4).mono fun e W' ⟨he, bel⟩ => ?_
  subst he
  exact ⟨_, rfl, _, _, _, [], _, [], hW', trodAll_mk1 (shut_bool Tryd.underlying4 _), (trodAll_cons_mk (Below.trod laid_VmSteps (by kernel_rfl) (of_decide_eq_true (by kernel_rfl)) k0 bel lt0) (trodAll_cons_mk (Below.trod laid_VmSteps (by kernel_rfl) (of_decide_eq_true (by kernel_rfl)) k1 bel lt1) (trodAll_cons_mk (Below.trod laid_VmSteps (by kernel_rfl) (of_decide_eq_true (by kernel_rfl)) k2 bel lt2) (trodAll_cons_mk (Below.trod laid_VmSteps (by kernel_rfl) (of_decide_eq_true (by kernel_rfl)) k3 bel lt3) (trodAll_cons_mk (Below.trod laid_VmSteps (by kernel_rfl) (of_decide_eq_true (by kernel_rfl)) k4 bel lt4) trodAll_mk0))))), rfl, bel.frame _, fun h => by cases h⟩

theorem vmSteps_holds : Rows.VmStepsSaid :=
  OpenClaim.holds_of_wide 5 Tryd.f5 rfl rfl rfl rfl rfl rfl rfl ⟨rfl, rfl, rfl, rfl, rfl⟩ rfl rfl rfl rfl rfl (by kernel_rfl) Tryd.func5 (by kernel_rfl)
    (of_decide_eq_true (by kernel_rfl)) (by unfold Func.isWrapper; first | (rw [if_pos (by decide +kernel)]; kernel_rfl) | (rw [if_neg (by decide +kernel)]; exact ⟨rfl, rfl⟩))
    (fun os started H enc _ => lifted_VmSteps os started H enc)

theorem vmSteps_card : Rows.VmStepsCardSaid :=
  Claim7.holds_tied_plain_at .later [] [.data] true (true, "58d819e43b9a1d437716ba237cfa0f32b282f039ee28317ee5c294f83b14d48e") false
    vmSteps_holds (fun _ h => by cases h) (by kernel_rfl) (fun _ h => by cases h) vmSteps_row_tie rfl ⟨rfl, rfl⟩ (by kernel_rfl) rfl
    (fun f fn hf hfn => by
      obtain rfl : f = 5 := Option.some.inj ((show Tryd.prog.funcNamed "barograph/barographkeep.VmSteps" = some 5 by kernel_rfl).symm.trans hf) |>.symm
      obtain rfl : fn = Tryd.f5 := (Option.some.inj (Tryd.func5.symm.trans hfn)).symm
      exact ⟨by kernel_rfl, fun j t ht => by
        rw [Tryd.params5] at ht
        have hm : t ∈ [30, 24, 24, 3, 3] := by simpa using Array.mem_of_getElem? ht
        have hall : ([30, 24, 24, 3, 3].all fun u => !Tryd.prog.wantsStandIn u) = true := by kernel_rfl
        exact (show Tryd.prog.wantsStandIn t = false by simpa using List.all_eq_true.1 hall t hm)⟩)
    (by kernel_rfl)
end Go.Proofs.YtjihopbapnfppaaDoor
