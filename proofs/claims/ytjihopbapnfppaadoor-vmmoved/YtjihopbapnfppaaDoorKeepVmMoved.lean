/- Where the words stand does not matter: the statement's call returns true, for every input, and leaves what was there as it was. The table of operands is as the package lays it. No condition but that each slice takes at most 2^47 - 4096 bytes. -/
import Derived.Test.YtjihopbapnfppaaDoorKeepMoved
set_option linter.unusedSimpArgs false
set_option linter.unusedVariables false
namespace Go.Proofs.YtjihopbapnfppaaDoor
open Go.ChangeShapes Go.WideShapes Go.ChangeAt Go.RowKit Go.Ord Go.Baro

/-- The arguments as they are drawn. -/
def asM (x : List Int) : List Int := (x.take 4).map (· % 9)
theorem asM_len (x : List Int) : (asM x).length ≤ 4 := by simp [asM]; omega
theorem asM_in (x : List Int) : ∀ y ∈ asM x, inW y := by
  intro y hy
  obtain ⟨z, _, rfl⟩ := List.mem_map.1 hy
  unfold inW; omega

set_option maxRecDepth 100000 in
set_option maxHeartbeats 16000000 in
theorem keep_VmMoved (w : World) (hT : Tab w) (A0 : Option Addr) (n0 c0 : Nat) (x0 : List Ins) (h0 : RO w w.heap.size A0 n0 x0) (b0 : n0 ≤ 3518437208883) (r0 : ∀ f ∈ x0, inI f) (_ : n0 ≤ c0)
    (A1 : Option Addr) (n1 c1 : Nat) (x1 : List Int) (h1 : RI w w.heap.size .i64 A1 n1 x1) (b1 : n1 ≤ 17592186044416) (r1 : ∀ x ∈ x1, -9223372036854775808 ≤ x ∧ x ≤ 9223372036854775807) (_ : n1 ≤ c1)
    (A2 : Option Addr) (n2 c2 : Nat) (x2 : List Int) (h2 : RI w w.heap.size .i64 A2 n2 x2) (b2 : n2 ≤ 17592186044416) (r2 : ∀ x ∈ x2, -9223372036854775808 ≤ x ∧ x ≤ 9223372036854775807) (_ : n2 ≤ c2)
    (x3 : Int) (r3 : -9223372036854775808 ≤ x3 ∧ x3 ≤ 9223372036854775807) (x4 : Int) (r4 : -9223372036854775808 ≤ x4 ∧ x4 ≤ 9223372036854775807) :
    Calls Tryd.prog 8 #[.slice A0 n0 c0, .slice A1 n1 c1, .slice A2 n2 c2, .int .i64 x3, .int .i64 x4] w fun e w' => e = .returned (.bool true) ∧ Below w.heap.size w w' := by
  have HL1 := Lib.hid h1.len
  have HL2 := Lib.hid h2.len
  have hlt := hT.lt
  obtain ⟨K, hK⟩ : ∃ K : Nat, x3 % 100 = K := ⟨(x3 % 100).toNat, by omega⟩
  have hKb : K < 100 := by omega
  obtain ⟨L, hL⟩ : ∃ L : Nat, x4 % 600 = L := ⟨(x4 % 600).toNat, by omega⟩
  have hLb : L < 600 := by omega
  obtain ⟨T, W, N, E, hR⟩ : ∃ T W N E, (T, W, N, E) = vmR (kC x0) (asM x1) (wsL (fun y => y) x2) L := ⟨_, _, _, _, rfl⟩
  have hsh : ∀ o ∈ kC x0, shI (kC x0).length o := fun o ho => kC_sh ho
  have hm2 : ∀ o ∈ (kC x0).map (mvI K), okI (kC x0).length o ∧ inI o := by
    intro o ho
    obtain ⟨o', ho', rfl⟩ := List.mem_map.1 ho
    exact mv_ok (by omega) (kC_ok x0).1 (hsh o' ho')
  have hok2 : okC ((kC x0).map (mvI K)) := ⟨by rw [List.length_map]; exact (kC_ok x0).1, fun o ho => by rw [List.length_map]; exact (hm2 o ho).1⟩
  have hfacts : (T, frL K ++ W, N, E) = vmR ((kC x0).map (mvI K)) (asM x1) (frL K ++ (wsL (fun y => y) x2)) L ∧ W.length = 6 := by
    have e1 := hR
    rw [vmR_ok (kC_ok x0) (by have := asM_len x1; omega) (by rw [wsL_len]; omega) (by omega)] at e1
    simp only [Prod.mk.injEq] at e1
    rw [vmR_ok hok2 (by have := asM_len x1; omega) (by rw [List.length_append, wsL_len, frL_len]; omega) (by omega)]
    obtain ⟨i1, i2, i3, i4⟩ := run_moved (c := kC x0) (fr := frL K) (ar := asM x1) (ws := (wsL (fun y => y) x2)) (by rw [frL_len]; omega) (asM_len x1) (wsL_len _ _) hsh L
    rw [frL_len] at i1 i2 i3
    refine ⟨?_, by rw [e1.2.1]; exact i4⟩
    rw [e1.1, e1.2.1, e1.2.2.1, e1.2.2.2, i1, i2, i3]
  obtain ⟨hR', hWl⟩ := hfacts
  have HR := Lib.hid hR
  have HR' := Lib.hid hR'
  have HWl := Lib.hid hWl
  have HIN2 := Lib.hid (fun o ho => (hm2 o ho).2 : ∀ o ∈ (kC x0).map (mvI K), inI o)
  have HSH := Lib.hid hsh
  have HWI := Lib.hid (wsL_in (f := fun y => y) (x := x2) (fun y hy => r2 y hy))
  have HFI := Lib.hid (show ∀ y ∈ frL K ++ (wsL (fun y => y) x2), inW y from by
    intro y hy
    rcases List.mem_append.1 hy with hy | hy
    · exact frL_in hKb y hy
    · exact HWI.out y hy)
  have HK := Lib.hid hK
  have HLL := Lib.hid hL
  clear hR hR' hok2 hm2 hsh hK hL hWl r0 r1 r2 r3 r4
  go_enter Tryd.func8, Tryd.ntmps8
  go_wp2_with fail
  refine (keep_CodeOf x0 A0 n0 c0 w h0 b0).mono ?_
  rintro e w1 ⟨A3, n3, c3, rfl, hro, hl3, hn3, hb1⟩
  have hs1 := hb1.size
  go_wp2_with fail
  refine (keep_Picked x3 100 w1 (by decide) (by decide)).mono ?_
  rintro e w' ⟨rfl, rfl⟩
  rw [HK.out]
  go_wp2
  go_loopw [13, 14] (fun v i wr => ∃ j : Nat, j ≤ n1 ∧ j ≤ 4 ∧ i = .int .i64 j ∧ wr.ownsRow w1.heap.size 3 1 v j (((x1.take j).map (· % 9)).map (Value.int .i64)) ∧ Below w1.heap.size w1 wr) (fun _ i _ => 4 - (intOf i).toNat)
  case atStart => exact ⟨0, Nat.zero_le _, by omega, rfl, World.ownsRow_nil _ _ _ _, Below.refl _ _⟩
  case round =>
    obtain ⟨j, hj, hj4, rfl, hown, hbel⟩ := hrel
    have hsz := hbel.size
    have hbw := hb1.trans (hbel.mono hs1)
    by_cases hin : j < 4 ∧ j < n1
    · obtain ⟨hi4, hin1⟩ := hin
      obtain ⟨b, o, x, rfl, hbB, hcell, HXX, hmem⟩ := (h1.below hbw).val hin1
      go_wp2_with (first
        | (go_at_call 21; refine (keep_Picked _ _ _ (by omega) (by omega)).mono ?_; rintro e w' ⟨rfl, rfl⟩)
        | (at_builtin; go_must (refine app_lit eltInt _ rfl _ _ rfl w1.heap.size _ j _ rfl hown 1 [.int .i64 (x % 9)] _ rfl rfl rfl (by simp [Value.oneCell']) (by omega) (by omega) hsz ?_); intro v3 w3 hown3 hgr3 hbel3 _))
      go_roundw
      case rel =>
        refine ⟨j + 1, by omega, by omega, by go_num, ?_, hbel3 _ hbel⟩
        rw [at_take HXX.out, List.map_append, List.map_append]
        exact hown3
      case measure => simp [intOf]; omega
    · obtain ⟨wo, rfl⟩ : ∃ wo, wo = wr := ⟨wr, rfl⟩
      have HAS : Hid ((x1.take j).map (· % 9) = asM x1) := by
        show _ = _
        unfold asM
        by_cases h4 : j = 4
        · rw [h4]
        · have hjn : j = n1 := by omega
          rw [List.take_of_length_le (by rw [HL1.out]; omega), List.take_of_length_le (by rw [HL1.out]; omega)]
      obtain ⟨A4, c4, rfl, hl4⟩ := own_form hown
      have hra' : RI wo wo.heap.size .i64 A4 j (asM x1) := by
        have := Rd.of_own hown
        rw [HAS.out] at this
        exact this
      clear hown
      rcases (by omega : ¬ j < 4 ∨ (j < 4 ∧ ¬ j < n1)) with hx | hx
      all_goals
        go_wp2_with (at_make; refine make_all eltInt _ rfl _ _ rfl wo.heap.size _ _ _ _ 6 rfl rfl rfl rfl (by omega) (by omega) (Nat.le_refl _) ?_; intro w2 hown2 hbel2 hsz2 hgr2)
        have hb2 : Below wo.heap.size wo w2 := hbel2 _ (Below.refl _ _)
        have hown3 : w2.ownsRow wo.heap.size 3 1 (.slice (some ⟨wo.heap.size, 0, none⟩) 6 6) 6 ((wsJ (fun y => y) x2 0).map (Value.int .i64)) := by
          have := hown2
          rw [made6 (fun y => y) x2] at this
          exact this
        clear hown2 hbel2 hgr2
        go_loopw [16] (fun i w5 => ∃ j2 : Nat, j2 ≤ n2 ∧ j2 ≤ 6 ∧ i = .int .i64 j2 ∧ w5.ownsRow wo.heap.size 3 1 (.slice (some ⟨wo.heap.size, 0, none⟩) 6 6) 6 ((wsJ (fun y => y) x2 j2).map (Value.int .i64)) ∧ Below wo.heap.size wo w5) (fun i _ => 6 - (intOf i).toNat)
        case atStart => exact ⟨0, Nat.zero_le _, by omega, rfl, hown3, hb2⟩
        case round =>
          obtain ⟨w5, rfl⟩ : ∃ w5, w5 = wr := ⟨wr, rfl⟩
          obtain ⟨j2, hj2, hj26, rfl, hown5, hbel5⟩ := hrel
          have hsz5 := hbel5.size
          have hb05 : Below w.heap.size w w5 := hbw.trans (hbel5.mono hbw.size)
          by_cases hin2 : j2 < 6 ∧ j2 < n2
          · obtain ⟨hi6, hin22⟩ := hin2
            obtain ⟨b, o, x, rfl, hbB, hcell, HXX, hmem⟩ := (h2.below hb05).val hin22
            have hcw := hown5.cellAt j2 (by omega)
            rw [List.getElem?_map, List.getElem?_eq_getElem (by rw [wsJ_len (by rw [HL2.out]; omega) hj26]; omega), Option.map_some] at hcw
            have hfw := hown5.frozenAt j2
            have hlw := block_lt' hcw
            have HST := Lib.hid (World.ownsRow.stored hown5 j2 (.int .i64 x))
            go_wp2
            go_roundw
            case rel =>
              refine ⟨j2 + 1, by omega, by omega, by go_num, ?_, below_set hbel5 HST.out.2 (Nat.le_refl _) hsz5⟩
              have := HST.out.1
              rw [← List.map_set, wsJ_step (f := fun y => y) HXX.out hi6] at this
              exact this
            case measure => simp [intOf]; omega
          · have HWS : Hid (wsJ (fun y => y) x2 j2 = (wsL (fun y => y) x2)) := by
              show _ = _
              unfold wsL
              rw [HL2.out, show j2 = min 6 n2 by omega]
            have hrw' : RI w5 w5.heap.size .i64 (some ⟨wo.heap.size, 0, none⟩) 6 (wsL (fun y => y) x2) := by
              have := Rd.of_own hown5
              rw [HWS.out] at this
              exact this
            have hra5 : RI w5 w5.heap.size .i64 A4 j (asM x1) := (hra'.below hbel5).more hsz5
            have hro5 : RO w5 w5.heap.size A3 n3 (kC x0) := ((hro.below (hbel.trans (hbel5.mono hsz))).more (by omega))
            clear hown5 hown3
            rcases (by omega : ¬ j2 < 6 ∨ (j2 < 6 ∧ ¬ j2 < n2)) with hx2 | hx2
            all_goals
              go_wp2_with (at_make; refine make_all eltInt _ rfl _ _ rfl w5.heap.size _ _ _ _ K rfl rfl rfl rfl (by omega) (by omega) (Nat.le_refl _) ?_; intro w6 hown6' hbel6 hsz6 hgr6)
              have hb6 : Below w5.heap.size w5 w6 := hbel6 _ (Below.refl _ _)
              have hown6 : w6.ownsRow w5.heap.size 3 1 (.slice (some ⟨w5.heap.size, 0, none⟩) K K) K ((frJ 0 K).map (Value.int .i64)) := by
                have := hown6'
                rw [madeK] at this
                exact this
              clear hown6' hbel6 hgr6
              go_loopw [18] (fun i w7 => ∃ j3 : Nat, j3 ≤ K ∧ i = .int .i64 j3 ∧ w7.ownsRow w5.heap.size 3 1 (.slice (some ⟨w5.heap.size, 0, none⟩) K K) K ((frJ j3 K).map (Value.int .i64)) ∧ Below w5.heap.size w5 w7) (fun i _ => K - (intOf i).toNat)
              case atStart => exact ⟨0, Nat.zero_le _, rfl, hown6, hb6⟩
              case round =>
                obtain ⟨w7, rfl⟩ : ∃ w7, w7 = wr := ⟨wr, rfl⟩
                obtain ⟨j3, hj3, rfl, hown7, hbel7⟩ := hrel
                have hsz7 := hbel7.size
                by_cases hj3K : j3 < K
                · have hcw := hown7.cellAt j3 (by omega)
                  rw [List.getElem?_map, List.getElem?_eq_getElem (by rw [frJ_len hj3]; omega), Option.map_some] at hcw
                  have hfw := hown7.frozenAt j3
                  have hlw := block_lt' hcw
                  have HST := Lib.hid (World.ownsRow.stored hown7 j3 (.int .i64 j3))
                  go_wp2
                  go_roundw
                  case rel =>
                    refine ⟨j3 + 1, by omega, by go_num, ?_, below_set hbel7 HST.out.2 (Nat.le_refl _) hsz7⟩
                    have := HST.out.1
                    rw [← List.map_set, frJ_step hj3K] at this
                    exact this
                  case measure => simp [intOf]; omega
                · obtain rfl : j3 = K := by omega
                  have hrf : RI w7 w7.heap.size .i64 (some ⟨w5.heap.size, 0, none⟩) j3 (frL j3) := by
                    have := Rd.of_own hown7
                    rw [frJ_end] at this
                    exact this
                  have hb07 : Below w.heap.size w w7 := hb05.trans (hbel7.mono hb05.size)
                  have hrw7 := (hrw'.below hbel7).more hsz7
                  have hra7 := (hra5.below hbel7).more hsz7
                  have hro7 := (hro5.below hbel7).more hsz7
                  clear hown7 hown6
                  go_wp2_with (first
                    | (at_builtin; go_must (refine app_srcB eltInt w7 rfl _ _ rfl w7.heap.size _ 0 [] rfl (World.ownsRow_nil _ _ _ _) _ _ _ ((wsL (fun y => y) x2).map (Value.int .i64)) rfl _ hrw7 (one_ints _ _) (by omega) (by omega) (Nat.le_refl _) ?_); intro v8 w8 hown8 _ hbel8 hsz8 _; obtain ⟨A8, c8, rfl, hlc8⟩ := own_form hown8; rw [List.nil_append, Nat.zero_add] at hown8; have hb8 := hbel8 _ (Below.refl _ _))
                    | (go_at_call 21; refine (keep_Picked _ _ _ (by omega) (by omega)).mono ?_; rintro e w' ⟨rfl, rfl⟩))
                  clear hbel8
                  rw [HLL.out]
                  have hs8 := hb8.size
                  have hb08 : Below w.heap.size w w8 := hb07.trans (hb8.mono hb07.size)
                  refine (vm_Run (kC x0) (asM x1) (wsL (fun y => y) x2) L A3 A4 A8 n3 c3 j c4 6 c8 w8 (hT.below hb08 hlt) ((hro7.below hb8).more hs8) (by omega) (kC_in x0) ((hra7.below hb8).more hs8) (by omega) (asM_in x1) (by exact Rd.of_own hown8) (by omega) HWI.out T W N E HR.out).mono ?_
                  rintro e w9 ⟨P1, p1, g1, P2, p2, g2, rfl, hq1, hq2, _, _, hm1, hm2, hb9⟩
                  have hs9 := hb9.size
                  have hb09 : Below w.heap.size w w9 := hb08.trans (hb9.mono hb08.size)
                  have hb79 : Below w7.heap.size w7 w9 := hb8.trans (hb9.mono hs8)
                  clear hown8
                  go_wp2_with fail
                  refine (keep_Moved (kC x0) A3 n3 c3 j3 (kC x0).length w9 ((hro7.below hb79).more hb79.size) hn3 hKb HSH.out).mono ?_
                  rintro e wa ⟨Aa, na, ca, rfl, hroa, hna, hba⟩
                  have hsa := hba.size
                  have hb0a : Below w.heap.size w wa := hb09.trans (hba.mono hb09.size)
                  have hb7a : Below w7.heap.size w7 wa := hb79.trans (hba.mono hb79.size)
                  have hrfa := (hrf.below hb7a)
                  have hrwa := (hrw7.below hb7a)
                  go_wp2_with (first
                    | (at_builtin; refine app_srcB eltInt wa rfl _ (.tmp 95) rfl wa.heap.size _ 0 [] rfl (World.ownsRow_nil _ _ _ _) _ _ _ ((frL j3).map (Value.int .i64)) rfl _ hrfa (one_ints _ _) (by omega) (by omega) (Nat.le_refl _) ?_; intro vb wb hownb _ hbelb hszb _; rw [List.nil_append, Nat.zero_add] at hownb; have hbb := hbelb _ (Below.refl _ _))
                    | (at_builtin; refine app_srcB eltInt wb rfl _ (.tmp 97) rfl wa.heap.size _ j3 _ rfl hownb _ _ _ ((wsL (fun y => y) x2).map (Value.int .i64)) rfl _ ((hrwa.below (hbb.mono (by exact hb7a.size)))) (one_ints _ _) (by omega) (by omega) hszb ?_; intro vc wc hownc _ hbelc hszc _; obtain ⟨Ac, cc, rfl, hlcc⟩ := own_form hownc; have hbc := hbelc _ hbb)
                    | (go_at_call 21; refine (keep_Picked _ _ _ (by omega) (by omega)).mono ?_; rintro e w' ⟨rfl, rfl⟩))
                  clear hbelb hbelc
                  rw [HLL.out]
                  have hrc2 : RI wc wc.heap.size .i64 Ac (j3 + 6) (frL j3 ++ (wsL (fun y => y) x2)) := by
                    have := Rd.of_own hownc
                    rw [← List.map_append] at this
                    exact this
                  have hb0c : Below w.heap.size w wc := hb0a.trans (hbc.mono hb0a.size)
                  have hb7c : Below w7.heap.size w7 wc := hb7a.trans (hbc.mono hb7a.size)
                  refine (vm_Run ((kC x0).map (mvI j3)) (asM x1) (frL j3 ++ (wsL (fun y => y) x2)) L Aa A4 Ac na ca j c4 (j3 + 6) cc wc (hT.below hb0c hlt) ((hroa.below hbc).more hbc.size) (by omega) HIN2.out ((hra7.below hb7c).more hb7c.size) (by omega) (asM_in x1) hrc2 (by omega) HFI.out T (frL j3 ++ W) N E HR'.out).mono ?_
                  rintro e wd ⟨Q1, q1, e1, Q2, q2, e2, rfl, hk1, hk2, hle1, hle2, hm3, hm4, hbd⟩
                  have hb0d : Below w.heap.size w wd := hb0c.trans (hbd.mono hb0c.size)
                  have hb9d : Below w9.heap.size w9 wd := (hba.trans (hbc.mono hsa)).trans (hbd.mono (hba.trans (hbc.mono hsa)).size)
                  have hb7d : Below w7.heap.size w7 wd := hb7c.trans (hbd.mono hb7c.size)
                  obtain rfl : q2 = j3 + 6 := by rw [← hk2.len, List.length_append, frL_len, HWl.out]
                  obtain rfl : p2 = 6 := by rw [← hq2.len]; exact HWl.out
                  clear hownb hownc
                  go_wp2_with fail
                  refine (keep_vmSure wd (hT.below hb0d hlt)).mono ?_
                  rintro e wf ⟨rfl, hbf⟩
                  have hb0f : Below w.heap.size w wf := hb0d.trans (hbf.mono hb0d.size)
                  have s1 : RI wf w9.heap.size .i64 P1 p1 T := (hq1.below hb9d).below (hbf.mono hb9d.size)
                  have s2 : RI wf w9.heap.size .i64 P2 6 W := (hq2.below hb9d).below (hbf.mono hb9d.size)
                  have s3 : RI wf wd.heap.size .i64 Q1 q1 T := hk1.below hbf
                  have s4 : RI wf wd.heap.size .i64 Q2 (j3 + 6) (frL j3 ++ W) := hk2.below hbf
                  have s5 : RI wf w7.heap.size .i64 (some ⟨w5.heap.size, 0, none⟩) j3 (frL j3) := (hrf.below hb7d).below (hbf.mono hb7d.size)
                  obtain ⟨bq, oq, rfl, _, _⟩ := s4.at_ (by omega)
                  have s6 : ∀ m, m = 6 → RI wf wd.heap.size .i64 (some ⟨bq, oq + j3, none⟩) m W := by
                    rintro m rfl
                    have := Rd.drop s4 (k := j3) (by omega)
                    rw [Nat.mul_one, ← List.map_drop, List.drop_left' (frL_len j3), Nat.add_sub_cancel_left] at this
                    exact this
                  have s7 : RI wf wd.heap.size .i64 (some ⟨bq, oq, none⟩) j3 (frL j3) := by
                    have := s4.take (m := j3) (by omega)
                    rw [List.take_left' (frL_len j3)] at this
                    exact this
                  have HS6 := Lib.hid s6
                  clear s6 s4 hq1 hq2 hk1 hk2
                  go_wp2_with fail
                  refine (keep_sameInts T T P1 Q1 p1 g1 q1 e1 wf _ _ true s1 s3 (by simp) (by omega) (by omega)).mono ?_
                  rintro e wg ⟨rfl, kg, rfl⟩
                  go_wp2_with fail
                  refine (keep_sameInts W W P2 _ 6 g2 _ _ _ w9.heap.size wd.heap.size true (by exact s2.heap rfl) (by exact (HS6.out _ (by omega)).heap rfl) (by simp) (by omega) (by omega)).mono ?_
                  rintro e wh ⟨rfl, kh, rfl⟩
                  go_wp2_with fail
                  refine (keep_sameInts (frL j3) (frL j3) _ _ j3 _ j3 _ _ w7.heap.size wd.heap.size true (by exact s5.heap rfl) (by exact s7.heap rfl) (by simp) (by omega) (by omega)).mono ?_
                  rintro e wi ⟨rfl, ki, rfl⟩
                  go_wp2
                  go_ret
                  exact ⟨by simp, hb0f.drewN _⟩

theorem own_VmMoved : ownKnob Tryd.prog.godebug = none := by kernel_rfl
theorem laid_VmMoved : laidOutB Tryd.prog = true := by kernel_rfl
set_option maxRecDepth 100000 in
theorem lifted_VmMoved (os : Os) (started : os.Started) (H : Type) (enc : TypeId × Value → H) :
    ReturnsInHanded {} Tryd.checked os 8 .any (fun w args => (Rows.vmMovedSpec.pre enc Tryd.prog Tryd.f8 [] false w args ∧ laidMetH Tryd.prog laidL w) ∧ sizedMet enc Tryd.prog Tryd.f8 (OpenSpec.ofChange Rows.vmMovedSpec) false w args)
      (Rows.vmMovedSpec.post enc Tryd.prog Tryd.f8 false true false false) := by
  refine returnsInHanded_of_change_and (C := Tryd.checked) (X := fun w _ => laidMetH Tryd.prog laidL w) (fun _ _ _ hh h => h.of_heap hh) own_VmMoved started (by kernel_rfl) Tryd.func8
    (ChangeSpec.witness_shaped (enc := enc) (C := Tryd.checked) (os := os) (X := fun w _ => laidMetH Tryd.prog laidL w) false (World.doorLaid Tryd.prog 400 os) #[.slice none 0 0, .slice none 0 0, .slice none 0 0, .int .i64 0, .int .i64 0] 8 rfl (World.shaped_of_RefB (by kernel_rfl) (by kernel_rfl)) (by kernel_rfl) (by kernel_rfl) (by kernel_rfl) (door_met os _)) ?_
  intro W base args ds gs before hval0 hW hcnd hsz0 hL _
  have hsz : (DataW.weightsEach Tryd.prog (Tryd.f8.params.toList ++ Rows.vmMovedSpec.plain.varTypes Tryd.prog) (ds ++ gs)).all (· ≤ reachBytes) = true := hsz0
  clear hsz0
  have hval : ∀ (j : Nat) t v, Tryd.f8.params[j]? = some t → args[j]? = some v → Value.okWide Tryd.prog W .any base t v := hval0
  have hW' := hW
  obtain ⟨p, q, hA0, hV, rfl, hfz, hnd⟩ := hW
  have hA : DataW.TrodAll enc Tryd.prog W 0 (fun _ => true) true Tryd.f8.params.toList args.toList ds p := hA0
  rw [Tryd.params8] at hA hval hsz
  obtain ⟨v0, vs0, d0, ds0, p0, q0, hargs, rfl, rfl, h0, r0⟩ := trodAll_cons hA
  obtain ⟨v1, vs1, d1, ds1, p1, q1, rfl, rfl, rfl, h1, r1⟩ := trodAll_cons r0
  obtain ⟨v2, vs2, d2, ds2, p2, q2, rfl, rfl, rfl, h2, r2⟩ := trodAll_cons r1
  obtain ⟨v3, vs3, d3, ds3, p3, q3, rfl, rfl, rfl, h3, r3⟩ := trodAll_cons r2
  obtain ⟨v4, vs4, d4, ds4, p4, q4, rfl, rfl, rfl, h4, r4⟩ := trodAll_cons r3
  obtain ⟨rfl, rfl, rfl⟩ := trodAll_nil r4
  obtain rfl : args = #[v0, v1, v2, v3, v4] := by cases args; simp_all
  obtain ⟨rfl, rfl⟩ := trodVars_none hV
  have k0 := h0
  have lt0 : ∀ x ∈ p0, x.block < W.heap.size := by obtain ⟨m, hm⟩ := k0; exact DataW.trod_lt m _ _ _ hm
  obtain ⟨a0, len0, cap0, rfl⟩ := okWide_slice Tryd.underlying30 (hval 0 30 v0 rfl rfl)
  obtain ⟨x0, ri0, rr0, lc0, hd0⟩ := open_RO Tryd.underlying30 Tryd.underlying80 (by kernel_rfl) Tryd.underlying3 (by kernel_rfl) (by kernel_rfl) h0
  have bd0 : len0 ≤ 3518437208883 := by
    rcases hd0 with ⟨h, _⟩ | ⟨el, sp, hd, hl⟩
    · omega
    · subst hd
      have := sized_slice hsz (j := 0) (t := 30) (e := 80) rfl rfl Tryd.underlying30
      rw [show Tryd.prog.bytesOf 80 = 40 by kernel_rfl] at this
      simp only [reachBytes] at this
      omega
  have k1 := h1
  have lt1 : ∀ x ∈ p1, x.block < W.heap.size := by obtain ⟨m, hm⟩ := k1; exact DataW.trod_lt m _ _ _ hm
  obtain ⟨a1, len1, cap1, rfl⟩ := okWide_slice Tryd.underlying24 (hval 1 24 v1 rfl rfl)
  obtain ⟨x1, ri1, wx1, lc1, hd1⟩ := open_RI Tryd.underlying24 Tryd.underlying3 (by kernel_rfl) h1
  have bd1 : len1 ≤ 17592186044416 := by
    rcases hd1 with ⟨h, _⟩ | ⟨el, sp, hd, hl⟩
    · omega
    · subst hd
      have := sized_slice hsz (j := 1) (t := 24) (e := 3) rfl rfl Tryd.underlying24
      rw [show Tryd.prog.bytesOf 3 = 8 by kernel_rfl] at this
      simp only [reachBytes] at this
      omega
  have rr1 : ∀ x ∈ x1, -9223372036854775808 ≤ x ∧ x ≤ 9223372036854775807 := fun x hx => bounds_i64 (wx1 x hx)
  have k2 := h2
  have lt2 : ∀ x ∈ p2, x.block < W.heap.size := by obtain ⟨m, hm⟩ := k2; exact DataW.trod_lt m _ _ _ hm
  obtain ⟨a2, len2, cap2, rfl⟩ := okWide_slice Tryd.underlying24 (hval 2 24 v2 rfl rfl)
  obtain ⟨x2, ri2, wx2, lc2, hd2⟩ := open_RI Tryd.underlying24 Tryd.underlying3 (by kernel_rfl) h2
  have bd2 : len2 ≤ 17592186044416 := by
    rcases hd2 with ⟨h, _⟩ | ⟨el, sp, hd, hl⟩
    · omega
    · subst hd
      have := sized_slice hsz (j := 2) (t := 24) (e := 3) rfl rfl Tryd.underlying24
      rw [show Tryd.prog.bytesOf 3 = 8 by kernel_rfl] at this
      simp only [reachBytes] at this
      omega
  have rr2 : ∀ x ∈ x2, -9223372036854775808 ≤ x ∧ x ≤ 9223372036854775807 := fun x hx => bounds_i64 (wx2 x hx)
  have k3 := h3
  have lt3 : ∀ x ∈ p3, x.block < W.heap.size := by obtain ⟨m, hm⟩ := k3; exact DataW.trod_lt m _ _ _ hm
  obtain ⟨x3, rfl, rfl, rfl, wx3⟩ := open_int Tryd.underlying3 (hval 3 3 v3 rfl rfl) h3
  have rr3 := bounds_i64 wx3
  have k4 := h4
  have lt4 : ∀ x ∈ p4, x.block < W.heap.size := by obtain ⟨m, hm⟩ := k4; exact DataW.trod_lt m _ _ _ hm
  obtain ⟨x4, rfl, rfl, rfl, wx4⟩ := open_int Tryd.underlying3 (hval 4 3 v4 rfl rfl) h4
  have rr4 := bounds_i64 wx4
  clear hA0 hval0 hsz
  refine (keep_VmMoved W (of_laid hL) a0 len0 cap0 x0 ri0 bd0 rr0 lc0 a1 len1 cap1 x1 ri1 bd1 rr1 lc1 a2 len2 cap2 x2 ri2 bd2 rr2 lc2 x3 rr3 x4 rr4).mono fun e W' ⟨he, bel⟩ => ?_
  subst he
  exact ⟨_, rfl, _, _, _, [], _, [], hW', trodAll_mk1 (shut_bool Tryd.underlying4 _), (trodAll_cons_mk (Below.trod laid_VmMoved (by kernel_rfl) (of_decide_eq_true (by kernel_rfl)) k0 bel lt0) (trodAll_cons_mk (Below.trod laid_VmMoved (by kernel_rfl) (of_decide_eq_true (by kernel_rfl)) k1 bel lt1) (trodAll_cons_mk (Below.trod laid_VmMoved (by kernel_rfl) (of_decide_eq_true (by kernel_rfl)) k2 bel lt2) (trodAll_cons_mk (Below.trod laid_VmMoved (by kernel_rfl) (of_decide_eq_true (by kernel_rfl)) k3 bel lt3) (trodAll_cons_mk (Below.trod laid_VmMoved (by kernel_rfl) (of_decide_eq_true (by kernel_rfl)) k4 bel lt4) trodAll_mk0))))), rfl, bel.frame _, fun h => by cases h⟩

theorem vmMoved_holds : Rows.VmMovedSaid :=
  OpenClaim.holds_of_wide 8 Tryd.f8 rfl rfl rfl rfl rfl rfl rfl ⟨rfl, rfl, rfl, rfl, rfl⟩ rfl rfl rfl rfl rfl (by kernel_rfl) Tryd.func8 (by kernel_rfl)
    (of_decide_eq_true (by kernel_rfl)) (by unfold Func.isWrapper; first | (rw [if_pos (by decide +kernel)]; kernel_rfl) | (rw [if_neg (by decide +kernel)]; exact ⟨rfl, rfl⟩))
    (fun os started H enc _ => lifted_VmMoved os started H enc)

theorem vmMoved_card : Rows.VmMovedCardSaid :=
  Claim7.holds_tied_plain_at .later [] [.data] true (true, "58d819e43b9a1d437716ba237cfa0f32b282f039ee28317ee5c294f83b14d48e") false
    vmMoved_holds (fun _ h => by cases h) (by kernel_rfl) (fun _ h => by cases h) vmMoved_row_tie rfl ⟨rfl, rfl⟩ (by kernel_rfl) rfl
    (fun f fn hf hfn => by
      obtain rfl : f = 8 := Option.some.inj ((show Tryd.prog.funcNamed "barograph/barographkeep.VmMoved" = some 8 by kernel_rfl).symm.trans hf) |>.symm
      obtain rfl : fn = Tryd.f8 := (Option.some.inj (Tryd.func8.symm.trans hfn)).symm
      exact ⟨by kernel_rfl, fun j t ht => by
        rw [Tryd.params8] at ht
        have hm : t ∈ [30, 24, 24, 3, 3] := by simpa using Array.mem_of_getElem? ht
        have hall : ([30, 24, 24, 3, 3].all fun u => !Tryd.prog.wantsStandIn u) = true := by kernel_rfl
        exact (show Tryd.prog.wantsStandIn t = false by simpa using List.all_eq_true.1 hall t hm)⟩)
    (by kernel_rfl)
end Go.Proofs.YtjihopbapnfppaaDoor
