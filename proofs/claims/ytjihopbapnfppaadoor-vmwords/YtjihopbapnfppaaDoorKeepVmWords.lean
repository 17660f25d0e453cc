/- A code changes no words but those it stores to, and none that there are not: the statement's call returns true, for every input, and leaves what was there as it was. The table of operands is as the package lays it. No condition but that each slice takes at most 2^47 - 4096 bytes. -/
import Derived.Test.YtjihopbapnfppaaDoorKeepVm
import Derived.Test.YtjihopbapnfppaaDoorKeepVmWs
import Derived.Test.YtjihopbapnfppaaDoorVmKeepPure2
set_option linter.unusedSimpArgs false
set_option linter.unusedVariables false
namespace Go.Proofs.YtjihopbapnfppaaDoor
open Go.ChangeShapes Go.WideShapes Go.ChangeAt Go.RowKit Go.Ord Go.Baro

theorem eltBool : Elt Tryd.prog 35 4 (.bool false) 1 1 := Elt.mk' Tryd.underlying35 (by kernel_rfl) rfl (by decide)
theorem madeB : (madeCells (Value.bool false).cells (6 * 1)).toList = (List.replicate 6 false).map Value.bool := by
  rw [madeCells_one _ rfl]; simp
/-- The instructions that store have marked their words. -/
def Mk (c : List Ins) (bs : List Bool) : Prop := bs.length = 6 ∧ ∀ o ∈ c, (o.k = 14 ∨ o.k = 15) → bs[o.c.toNat]? = some true
theorem mk_other {c : List Ins} {bs : List Bool} {o : Ins} (h : Mk c bs) (ho : ¬ (o.k = 14 ∨ o.k = 15)) : Mk (c ++ [o]) bs := by
  refine ⟨h.1, fun q hq hk => ?_⟩
  rcases List.mem_append.1 hq with hq | hq
  · exact h.2 q hq hk
  · rw [List.mem_singleton.1 hq] at hk; exact absurd hk ho
theorem mk_set {c : List Ins} {bs : List Bool} {o : Ins} {q : Nat} (h : Mk c bs) (hq : o.c = q) (h6 : q < 6) : Mk (c ++ [o]) (bs.set q true) := by
  refine ⟨by rw [List.length_set]; exact h.1, fun q' hq' hk => ?_⟩
  rw [List.getElem?_set]
  rcases List.mem_append.1 hq' with hq' | hq'
  · have := h.2 q' hq' hk
    split
    · rw [if_pos (by have := h.1; omega)]
    · exact this
  · rw [List.mem_singleton.1 hq', hq, Int.toNat_natCast, if_pos rfl, if_pos (by have := h.1; omega)]

set_option maxRecDepth 100000 in
set_option maxHeartbeats 16000000 in
theorem keep_VmWords (w : World) (hT : Tab w) (A0 : Option Addr) (n0 c0 : Nat) (x0 : List Ins) (h0 : RO w w.heap.size A0 n0 x0) (b0 : n0 ≤ 3518437208883) (r0 : ∀ f ∈ x0, inI f) (_ : n0 ≤ c0)
    (A1 : Option Addr) (n1 c1 : Nat) (x1 : List Int) (h1 : RI w w.heap.size .i64 A1 n1 x1) (b1 : n1 ≤ 17592186044416) (r1 : ∀ x ∈ x1, -9223372036854775808 ≤ x ∧ x ≤ 9223372036854775807) (_ : n1 ≤ c1)
    (x2 : Int) (r2 : -9223372036854775808 ≤ x2 ∧ x2 ≤ 9223372036854775807) :
    Calls Tryd.prog 6 #[.slice A0 n0 c0, .slice A1 n1 c1, .int .i64 x2] w fun e w' => e = .returned (.bool true) ∧ Below w.heap.size w w' := by
  have HL1 := Lib.hid h1.len
  have hlt := hT.lt
  obtain ⟨L, hL⟩ : ∃ L : Nat, x2 % 600 = L := ⟨(x2 % 600).toNat, by omega⟩
  have hLb : L < 600 := by omega
  obtain ⟨T, W, N, E, hR⟩ : ∃ T W N E, (T, W, N, E) = vmR (kC x0) [] (wsL (fun y => y) x1) L := ⟨_, _, _, _, rfl⟩
  have hsh : ∀ o ∈ kC x0, shI (kC x0).length o := fun o ho => kC_sh ho
  have hfacts : W.length = 6 ∧ (E = 0 ∨ E = 11 ∨ E = 8) ∧ ∀ (bs : List Bool), Mk (kC x0) bs → ∀ i : Nat, bs[i]? ≠ some true → W[i]? = (wsL (fun y => y) x1)[i]? := by
    have e1 := hR
    rw [vmR_ok (kC_ok x0) (by simp) (by rw [wsL_len]; omega) (by omega)] at e1
    simp only [Prod.mk.injEq] at e1
    have i1 := fun (bs : List Bool) (hbs : Mk (kC x0) bs) => run_words (sto := fun i => bs[i]? = some true) hsh hbs.2 (wsL_len (fun y => y) x1) L
    have i0 := run_words (c := kC x0) (sto := fun _ => True) hsh (fun _ _ _ => trivial) (wsL_len (fun y => y) x1) L
    rw [e1.2.1, e1.2.2.2]
    exact ⟨i0.1, i0.2.2, fun bs hbs i hi => (i1 bs hbs).2.1 i hi⟩
  obtain ⟨hWl, hE, hWS⟩ := hfacts
  have HWl := Lib.hid hWl
  have HWS := Lib.hid hWS
  have HR := Lib.hid hR
  have HSH := Lib.hid hsh
  have HWI := Lib.hid (wsL_in (f := fun y => y) (x := x1) (fun y hy => r1 y hy))
  have HWL := Lib.hid (wsL_len (fun y => y) x1)
  have HLL := Lib.hid hL
  have HE := Lib.hid hE
  clear hR hsh hL hE hWl hWS r0 r1 r2
  go_enter Tryd.func6, Tryd.ntmps6
  go_wp2_with fail
  refine (keep_CodeOf x0 A0 n0 c0 w h0 b0).mono ?_
  rintro e w1 ⟨A3, n3, c3, rfl, hro, hl3, hn3, hb1⟩
  have hs1 := hb1.size
  have HL3 := Lib.hid hro.len
  go_wp2_with (at_make; refine make_all eltBool _ rfl _ _ rfl w1.heap.size _ _ _ _ 6 rfl rfl rfl rfl (by omega) (by omega) (Nat.le_refl _) ?_; intro w2 hown2 hbel2 hsz2 hgr2)
  rw [madeB] at hown2
  have hb2 : Below w1.heap.size w1 w2 := hbel2 _ (Below.refl _ _)
  clear hbel2 hgr2
  go_loopw [9] (fun i wr => ∃ (j : Nat) (bs : List Bool), j ≤ n3 ∧ i = .int .i64 j ∧ wr.ownsRow w1.heap.size 4 1 (.slice (some ⟨w1.heap.size, 0, none⟩) 6 6) 6 (bs.map Value.bool) ∧ Hid (Mk ((kC x0).take j) bs) ∧ Below w1.heap.size w1 wr) (fun i _ => n3 - (intOf i).toNat)
  case atStart => exact ⟨0, List.replicate 6 false, Nat.zero_le _, rfl, hown2, ⟨rfl, by simp⟩, hb2⟩
  case round =>
    obtain ⟨j, bs, hj, rfl, hown, HMK, hbel⟩ := hrel
    have hsz := hbel.size
    by_cases hjn : j < n3
    · obtain ⟨b, o, k, x, y, z, u, rfl, hbB, d0, d1, d2, d3, d4, HX, hmem⟩ := (hro.below hbel).val hjn
      have hbs : b < wr.heap.size := by omega
      have HSHP := Lib.hid (HSH.out _ hmem)
      clear hmem
      by_cases hk : k = 14 ∨ k = 15
      · have hz : 0 ≤ z ∧ z < 6 := by
          have := HSHP.out
          unfold shI at this; dsimp only at this; omega
        obtain ⟨q, rfl⟩ : ∃ q : Nat, z = q := ⟨z.toNat, by omega⟩
        have hq6 : q < 6 := by omega
        have hcw := hown.cellAt q (by omega)
        rw [List.getElem?_map, List.getElem?_eq_getElem (by rw [HMK.out.1]; exact hq6), Option.map_some] at hcw
        have hfw := hown.frozenAt q
        have hlw := block_lt' hcw
        have HST := Lib.hid (World.ownsRow.stored hown q (.bool true))
        have HM2 := Lib.hid (mk_set (o := ⟨k, x, y, q, u⟩) HMK.out rfl hq6)
        rcases hk with rfl | rfl
        all_goals
          go_wp2
          go_roundw
          case rel =>
            refine ⟨j + 1, bs.set q true, by omega, by go_num, ?_, ?_, below_set hbel HST.out.2 (Nat.le_refl _) hsz⟩
            · have := HST.out.1
              rw [← List.map_set] at this
              exact this
            · show Mk _ _
              rw [at_take HX.out]
              exact HM2.out
          case measure => simp [intOf]; omega
      · have e14 : (k == 14) = false := by simp; omega
        have e15 : (k == 15) = false := by simp; omega
        have HM2 := Lib.hid (mk_other (o := ⟨k, x, y, z, u⟩) HMK.out hk)
        clear hk
        go_wp2
        go_roundw
        case rel =>
          refine ⟨j + 1, bs, by omega, by go_num, hown, ?_, hbel⟩
          show Mk _ _
          rw [at_take HX.out]
          exact HM2.out
        case measure => simp [intOf]; omega
    · obtain ⟨wo, rfl⟩ : ∃ wo, wo = wr := ⟨wr, rfl⟩
      obtain rfl : j = n3 := by omega
      have HMK2 : Hid (Mk (kC x0) bs) := by
        have := HMK.out
        rw [List.take_of_length_le (by rw [HL3.out]; exact Nat.le_refl _)] at this
        exact this
      have hrb : Rd wo wo.heap.size 1 (some ⟨w1.heap.size, 0, none⟩) 6 (bs.map Value.bool) := Rd.of_own hown
      have hrc : RO wo wo.heap.size A3 j (kC x0) := (hro.below hbel).more hsz
      have hb0o : Below w.heap.size w wo := hb1.trans (hbel.mono hs1)
      have hlt1 : w1.heap.size < wo.heap.size := by obtain ⟨b, o, he, hb, _⟩ := hrb.at_ (by omega); injection he with he; injection he with he; omega
      clear hown HMK hown2
      go_wp2_with (at_make; refine make_all eltInt _ rfl _ _ rfl wo.heap.size _ _ _ _ 6 rfl rfl rfl rfl (by omega) (by omega) (Nat.le_refl _) ?_; intro w3 hown3' hbel3 hsz3 hgr3)
      have hb3 : Below wo.heap.size wo w3 := hbel3 _ (Below.refl _ _)
      have hown3 : w3.ownsRow wo.heap.size 3 1 (.slice (some ⟨wo.heap.size, 0, none⟩) 6 6) 6 ((wsJ (fun y => y) x1 0).map (Value.int .i64)) := by
        have := hown3'
        rw [made6 (fun y => y) x1] at this
        exact this
      clear hown3' hbel3 hgr3
      go_loopw [11] (fun i w5 => ∃ j2 : Nat, j2 ≤ n1 ∧ j2 ≤ 6 ∧ i = .int .i64 j2 ∧ w5.ownsRow wo.heap.size 3 1 (.slice (some ⟨wo.heap.size, 0, none⟩) 6 6) 6 ((wsJ (fun y => y) x1 j2).map (Value.int .i64)) ∧ Below wo.heap.size wo w5) (fun i _ => 6 - (intOf i).toNat)
      case atStart => exact ⟨0, Nat.zero_le _, by omega, rfl, hown3, hb3⟩
      case round =>
        obtain ⟨w5, rfl⟩ : ∃ w5, w5 = wr := ⟨wr, rfl⟩
        obtain ⟨j2, hj2, hj26, rfl, hown5, hbel5⟩ := hrel
        have hsz5 := hbel5.size
        have hb05 : Below w.heap.size w w5 := hb0o.trans (hbel5.mono hb0o.size)
        by_cases hin2 : j2 < 6 ∧ j2 < n1
        · obtain ⟨hi6, hin22⟩ := hin2
          obtain ⟨b, o, x, rfl, hbB, hcell, HXX, hmem⟩ := (h1.below hb05).val hin22
          have hcw := hown5.cellAt j2 (by omega)
          rw [List.getElem?_map, List.getElem?_eq_getElem (by rw [wsJ_len (by rw [HL1.out]; omega) hj26]; omega), Option.map_some] at hcw
          have hfw := hown5.frozenAt j2
          have hlw := block_lt' hcw
          have HST := Lib.hid (World.ownsRow.stored hown5 j2 (.int .i64 x))
          go_wp2
          go_roundw
          case rel =>
            refine ⟨j2 + 1, by omega, by omega, by go_num, ?_, below_set hbel5 HST.out.2 (Nat.le_refl _) hsz5⟩
            have := HST.out.1
            rw [← List.map_set, wsJ_step (f := fun y => y) HXX.out hi6] at this
            exact this
          case measure => simp [intOf]; omega
        · have HWS5 : Hid (wsJ (fun y => y) x1 j2 = wsL (fun y => y) x1) := by
            show _ = _
            unfold wsL
            rw [HL1.out, show j2 = min 6 n1 by omega]
          have hrw' : RI w5 w5.heap.size .i64 (some ⟨wo.heap.size, 0, none⟩) 6 (wsL (fun y => y) x1) := by
            have := Rd.of_own hown5
            rw [HWS5.out] at this
            exact this
          clear hown5 hown3
          rcases (by omega : ¬ j2 < 6 ∨ (j2 < 6 ∧ ¬ j2 < n1)) with hx2 | hx2
          all_goals
            go_wp2_with (first
              | (at_builtin; go_must (refine app_srcB eltInt w5 rfl _ _ rfl w5.heap.size _ 0 [] rfl (World.ownsRow_nil _ _ _ _) _ _ _ ((wsL (fun y => y) x1).map (Value.int .i64)) rfl _ hrw' (one_ints _ _) (by omega) (by omega) (Nat.le_refl _) ?_); intro v6 w6 hown6 _ hbel6 hsz6 _; obtain ⟨A6, c6, rfl, hlc6⟩ := own_form hown6; rw [List.nil_append, Nat.zero_add] at hown6; have hb6 := hbel6 _ (Below.refl _ _))
              | (go_at_call 21; refine (keep_Picked _ _ _ (by omega) (by omega)).mono ?_; rintro e w' ⟨rfl, rfl⟩))
            clear hbel6
            rw [HLL.out]
            have hs6 := hb6.size
            have hb06 : Below w.heap.size w w6 := hb05.trans (hb6.mono hb05.size)
            have hbo6 : Below wo.heap.size wo w6 := hbel5.trans (hb6.mono hsz5)
            refine (vm_Run (kC x0) [] (wsL (fun y => y) x1) L A3 none A6 j c3 0 0 6 c6 w6 (hT.below hb06 hlt) ((hrc.below hbo6).more hbo6.size) (by omega) (kC_in x0) (RI.nil _ _ _ _) (by omega) (by simp) (by exact Rd.of_own hown6) (by omega) HWI.out T W N E HR.out).mono ?_
            rintro e w7 ⟨P1, p1, g1, P2, p2, g2, rfl, hq1, hq2, _, _, hm1, hm2, hb7⟩
            have hs7 := hb7.size
            have hb07 : Below w.heap.size w w7 := hb06.trans (hb7.mono hb06.size)
            have hbo7 : Below wo.heap.size wo w7 := hbo6.trans (hb7.mono hbo6.size)
            have hb57 : Below w5.heap.size w5 w7 := hb6.trans (hb7.mono hs6)
            clear hown6
            obtain rfl : p2 = 6 := by rw [← hq2.len]; exact HWl.out
            go_wp2_with fail
            refine (keep_vmSure w7 (hT.below hb07 hlt)).mono ?_
            rintro e wa ⟨rfl, hba⟩
            have hb0a : Below w.heap.size w wa := hb07.trans (hba.mono hb07.size)
            have s1 : RI wa w7.heap.size .i64 P2 6 W := hq2.below hba
            have s2 : RI wa w5.heap.size .i64 (some ⟨wo.heap.size, 0, none⟩) 6 (wsL (fun y => y) x1) := (hrw'.below hb57).below (hba.mono hb57.size)
            have s3 : Rd wa wo.heap.size 1 (some ⟨w1.heap.size, 0, none⟩) 6 (bs.map Value.bool) := (hrb.below hbo7).below (hba.mono hbo7.size)
            have hl7 := hba.size
            clear hq1 hq2 hrw' hrb hb6 hb7 hb57 hbo6 hbo7
            rcases HE.out with rfl | rfl | rfl
            all_goals
              go_wp2
              go_loopw [16] (fun i wr => ∃ j3 : Nat, j3 ≤ 6 ∧ i = .int .i64 j3 ∧ ∃ m, wr = wa.drewN m) (fun i _ => 6 - (intOf i).toNat)
              case atStart => exact ⟨0, by omega, rfl, 0, rfl⟩
              case round =>
                obtain ⟨j3, hj3, rfl, m, rfl⟩ := hrel
                by_cases hj36 : j3 < 6
                · obtain ⟨bP, oP, xv, rfl, hbP, cP, HXV, _⟩ := s1.val hj36
                  obtain ⟨bQ, oQ, xw, heQ, hbQ, cQ, HXW, _⟩ := s2.val hj36
                  obtain ⟨bR, oR, heR, hbR, cR⟩ := s3.at_ (by omega)
                  injection heQ with heQ
                  injection heQ with heQ1 heQ2
                  subst heQ1 heQ2
                  injection heR with heR
                  injection heR with heR1 heR2
                  subst heR1 heR2
                  have cR := cR j3 (by omega)
                  obtain ⟨bv, HBV⟩ : ∃ bv, Hid (bs[j3]? = some bv) := ⟨_, List.getElem?_eq_getElem (by rw [HMK2.out.1]; exact hj36)⟩
                  rw [List.getElem?_map, HBV.out, Option.map_some] at cR
                  simp only [Nat.zero_add] at cQ cR
                  cases bv with
                  | true =>
                    go_wp2
                    refine region_two [0, 1, 2, 3, 4, 5, 6, 7, 8, 9, 10, 11, 12, 13, 14, 15] [] (by kernel_rfl) (by kernel_rfl) ?_
                    simp only [pick, List.map_cons, List.map_nil, List.getD_cons_zero, List.getD_cons_succ]
                    go_wp2
                    go_roundw
                    case rel => exact ⟨j3 + 1, by omega, by go_num, _, rfl⟩
                    case measure => simp [intOf]; omega
                  | false =>
                    have hxx : xv = xw := by
                      have := HWS.out bs HMK2.out j3 (by rw [HBV.out]; simp)
                      rw [HXV.out, HXW.out] at this
                      injection this
                    subst hxx
                    go_wp2
                    refine region_two [0, 1, 2, 3, 4, 5, 6, 7, 8, 9, 10, 11, 12, 13, 14, 15] [] (by kernel_rfl) (by kernel_rfl) ?_
                    simp only [pick, List.map_cons, List.map_nil, List.getD_cons_zero, List.getD_cons_succ]
                    go_wp2
                    go_roundw
                    case rel => exact ⟨j3 + 1, by omega, by go_num, _, rfl⟩
                    case measure => simp [intOf]; omega
                · go_wp2
                  go_ret
                  exact ⟨rfl, hb0a.drewN _⟩

theorem own_VmWords : ownKnob Tryd.prog.godebug = none := by kernel_rfl
theorem laid_VmWords : laidOutB Tryd.prog = true := by kernel_rfl
set_option maxRecDepth 100000 in
theorem lifted_VmWords (os : Os) (started : os.Started) (H : Type) (enc : TypeId × Value → H) :
    ReturnsInHanded {} Tryd.checked os 6 .any (fun w args => (Rows.vmWordsSpec.pre enc Tryd.prog Tryd.f6 [] false w args ∧ laidMetH Tryd.prog laidL w) ∧ sizedMet enc Tryd.prog Tryd.f6 (OpenSpec.ofChange Rows.vmWordsSpec) false w args)
      (Rows.vmWordsSpec.post enc Tryd.prog Tryd.f6 false true false false) := by
  refine returnsInHanded_of_change_and (C := Tryd.checked) (X := fun w _ => laidMetH Tryd.prog laidL w) (fun _ _ _ hh h => h.of_heap hh) own_VmWords started (by kernel_rfl) Tryd.func6
    (ChangeSpec.witness_shaped (enc := enc) (C := Tryd.checked) (os := os) (X := fun w _ => laidMetH Tryd.prog laidL w) false (World.doorLaid Tryd.prog 400 os) #[.slice none 0 0, .slice none 0 0, .int .i64 0] 8 rfl (World.shaped_of_RefB (by kernel_rfl) (by kernel_rfl)) (by kernel_rfl) (by kernel_rfl) (by kernel_rfl) (door_met os _)) ?_
  intro W base args ds gs before hval0 hW hcnd hsz0 hL _
  have hsz : (DataW.weightsEach Tryd.prog (Tryd.f6.params.toList ++ Rows.vmWordsSpec.plain.varTypes Tryd.prog) (ds ++ gs)).all (· ≤ reachBytes) = true := hsz0
  clear hsz0
  have hval : ∀ (j : Nat) t v, Tryd.f6.params[j]? = some t → args[j]? = some v → Value.okWide Tryd.prog W .any base t v := hval0
  have hW' := hW
  obtain ⟨p, q, hA0, hV, rfl, hfz, hnd⟩ := hW
  have hA : DataW.TrodAll enc Tryd.prog W 0 (fun _ => true) true Tryd.f6.params.toList args.toList ds p := hA0
  rw [Tryd.params6] at hA hval hsz
  obtain ⟨v0, vs0, d0, ds0, p0, q0, hargs, rfl, rfl, h0, r0⟩ := trodAll_cons hA
  obtain ⟨v1, vs1, d1, ds1, p1, q1, rfl, rfl, rfl, h1, r1⟩ := trodAll_cons r0
  obtain ⟨v2, vs2, d2, ds2, p2, q2, rfl, rfl, rfl, h2, r2⟩ := trodAll_cons r1
  obtain ⟨rfl, rfl, rfl⟩ := trodAll_nil r2
  obtain rfl : args = #[v0, v1, v2] := by cases args; simp_all
  obtain ⟨rfl, rfl⟩ := trodVars_none hV
  have k0 := h0
  have lt0 : ∀ x ∈ p0, x.block < W.heap.size := by obtain ⟨m, hm⟩ := k0; exact DataW.trod_lt m _ _ _ hm
  obtain ⟨a0, len0, cap0, rfl⟩ := okWide_slice Tryd.underlying30 (hval 0 30 v0 rfl rfl)
  obtain ⟨x0, ri0, rr0, lc0, hd0⟩ := open_RO Tryd.underlying30 Tryd.underlying80 (by kernel_rfl) Tryd.underlying3 (by kernel_rfl) (by kernel_rfl) h0
  have bd0 : len0 ≤ 3518437208883 := by
    rcases hd0 with ⟨h, _⟩ | ⟨el, sp, hd, hl⟩
    · omega
    · subst hd
      have := sized_slice hsz (j := 0) (t := 30) (e := 80) rfl rfl Tryd.underlying30
      rw [show Tryd.prog.bytesOf 80 = 40 by kernel_rfl] at this
      simp only [reachBytes] at this
      omega
  have k1 := h1
  have lt1 : ∀ x ∈ p1, x.block < W.heap.size := by obtain ⟨m, hm⟩ := k1; exact DataW.trod_lt m _ _ _ hm
  obtain ⟨a1, len1, cap1, rfl⟩ := okWide_slice Tryd.underlying24 (hval 1 24 v1 rfl rfl)
  obtain ⟨x1, ri1, wx1, lc1, hd1⟩ := open_RI Tryd.underlying24 Tryd.underlying3 (by kernel_rfl) h1
  have bd1 : len1 ≤ 17592186044416 := by
    rcases hd1 with ⟨h, _⟩ | ⟨el, sp, hd, hl⟩
    · omega
    · subst hd
      have := sized_slice hsz (j := 1) (t := 24) (e := 3) rfl rfl Tryd.underlying24
      rw [show Tryd.prog.bytesOf 3 = 8 by kernel_rfl] at this
      simp only [reachBytes] at this
      omega
  have rr1 : ∀ x ∈ x1, -9223372036854775808 ≤ x ∧ x ≤ 9223372036854775807 := fun x hx => bounds_i64 (wx1 x hx)
  have k2 := h2
  have lt2 : ∀ x ∈ p2, x.block < W.heap.size := by obtain ⟨m, hm⟩ := k2; exact DataW.trod_lt m _ _ _ hm
  obtain ⟨x2, rfl, rfl, rfl, wx2⟩ := open_int Tryd.underlying3 (hval 2 3 v2 rfl rfl) h2
  have rr2 := bounds_i64 wx2
  clear hA0 hval0 hsz
  refine (keep_VmWords W (of_laid hL) a0 len0 cap0 x0 ri0 bd0 rr0 lc0 a1 len1 cap1 x1 ri1 bd1 rr1 lc1 x2 rr2).mono fun e W' ⟨he, bel⟩ => ?_
  subst he
  exact ⟨_, rfl, _, _, _, [], _, [], hW', trodAll_mk1 (shut_bool Tryd.underlying4 _), (trodAll_cons_mk (Below.trod laid_VmWords (by kernel_rfl) (of_decide_eq_true (by kernel_rfl)) k0 bel lt0) (trodAll_cons_mk (Below.trod laid_VmWords (by kernel_rfl) (of_decide_eq_true (by kernel_rfl)) k1 bel lt1) (trodAll_cons_mk (Below.trod laid_VmWords (by kernel_rfl) (of_decide_eq_true (by kernel_rfl)) k2 bel lt2) trodAll_mk0))), rfl, bel.frame _, fun h => by cases h⟩

theorem vmWords_holds : Rows.VmWordsSaid :=
  OpenClaim.holds_of_wide 6 Tryd.f6 rfl rfl rfl rfl rfl rfl rfl ⟨rfl, rfl, rfl, rfl, rfl⟩ rfl rfl rfl rfl rfl (by kernel_rfl) Tryd.func6 (by kernel_rfl)
    (of_decide_eq_true (by kernel_rfl)) (by unfold Func.isWrapper; first | (rw [if_pos (by decide +kernel)]; kernel_rfl) | (rw [if_neg (by decide +kernel)]; exact ⟨rfl, rfl⟩))
    (fun os started H enc _ => lifted_VmWords os started H enc)

theorem vmWords_card : Rows.VmWordsCardSaid :=
  Claim7.holds_tied_plain_at .later [] [.data] true (true, "58d819e43b9a1d437716ba237cfa0f32b282f039ee28317ee5c294f83b14d48e") false
    vmWords_holds (fun _ h => by cases h) (by kernel_rfl) (fun _ h => by cases h) vmWords_row_tie rfl ⟨rfl, rfl⟩ (by kernel_rfl) rfl
    (fun f fn hf hfn => by
      obtain rfl : f = 6 := Option.some.inj ((show Tryd.prog.funcNamed "barograph/barographkeep.VmWords" = some 6 by kernel_rfl).symm.trans hf) |>.symm
      obtain rfl : fn = Tryd.f6 := (Option.some.inj (Tryd.func6.symm.trans hfn)).symm
      exact ⟨by kernel_rfl, fun j t ht => by
        rw [Tryd.params6] at ht
        have hm : t ∈ [30, 24, 3] := by simpa using Array.mem_of_getElem? ht
        have hall : ([30, 24, 3].all fun u => !Tryd.prog.wantsStandIn u) = true := by kernel_rfl
        exact (show Tryd.prog.wantsStandIn t = false by simpa using List.all_eq_true.1 hall t hm)⟩)
    (by kernel_rfl)
end Go.Proofs.YtjihopbapnfppaaDoor
