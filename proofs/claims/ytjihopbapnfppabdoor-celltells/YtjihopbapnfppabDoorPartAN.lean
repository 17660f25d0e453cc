/- Of this claim's own texts these, one behind the other: KeepCellTP, AlgPure. No statement of the seat is proved here; no condition but those that stand at the theorems. -/
import Derived.Test.YtjihopbapnfppabDoorPartAM
import Derived.Test.YtjihopbapnfppabDoorPartAH
set_option linter.unusedSimpArgs false
set_option linter.unusedVariables false
namespace Go.Proofs.YtjihopbapnfppabDoor
open Go.RowKit Go.Ord Go.Baro

set_option maxRecDepth 100000 in
set_option maxHeartbeats 2000000 in
theorem keep_CellTellsP (c : Cc) (hc : c.Ok) (hgood : CellTells c) (hM : MaySpec) (hPl : PlaySpec) (hW : CellWordsSpec c) (hP : CellCodeSpec 8 c.cp) (hG : CellCodeSpec 9 c.cg) (w : World) (hT : Tab w)
    (x0 : Int) (r0 : -9223372036854775808 ≤ x0 ∧ x0 ≤ 9223372036854775807)
    (A1 : Option Addr) (n1 c1 : Nat) (x1 : List Int) (h1 : RI w w.heap.size .i64 A1 n1 x1) (b1 : n1 ≤ 17592186044416) (r1 : ∀ x ∈ x1, -9223372036854775808 ≤ x ∧ x ≤ 9223372036854775807) (_ : n1 ≤ c1) :
    Calls Tryd.prog 6 #[.int .i64 x0, .slice A1 n1 c1] w fun e w' => e = .returned (.bool true) ∧ Below w.heap.size w w' := by
  have HPl := Lib.hid hPl
  have HT := Lib.hid hT
  have HR1 := Lib.hid (show ∀ x ∈ x1, inW x from r1)
  have HCM := Lib.hid (keep_cellMachine c hc hM hW hP hG)
  have HGood := Lib.hid hgood
  have HC := Lib.hid hc
  have HL1 := Lib.hid h1.len
  clear hPl hT r1 hM hW hP hG hgood hc
  obtain ⟨d, hd⟩ : ∃ d : Nat, (d : Int) = 1 + x0 % 6 := ⟨(1 + x0 % 6).toNat, by omega⟩
  have hd1 : 1 ≤ d := by omega
  have hd6 : d ≤ 6 := by omega
  go_enter Tryd.func6, Tryd.ntmps6
  go_wp2_with fail
  refine (keep_Picked x0 6 w (by omega) (by omega)).mono ?_
  rintro e w' ⟨rfl, rfl⟩
  obtain ⟨y0, hy0⟩ : ∃ y0, y0 = x0 % 6 := ⟨_, rfl⟩
  rw [← hy0] at hd ⊢
  have hyd : y0 = (d : Int) - 1 := by omega
  clear hy0 hd
  subst hyd
  have hdd : (1 + ((d : Int) - 1)) = (d : Int) := by omega
  go_wp2_with fail
  refine (HCM.out w HT.out d 2 1 hd1 hd6 (by omega) (by omega)).mono ?_
  rintro e w1 ⟨Aw, nw, cw, gc, g6, B6, tg, ts, rfl, hcm1, hmg1, hBw, hb1⟩
  have hs1 := hb1.size
  have hA2 := (Below.refl w1.heap.size w1).alloc (Nat.le_refl _) (Obj.cells #[.slice Aw nw cw, .slice (some ⟨gc, 0, none⟩) 2 2, .slice (some ⟨g6, 0, none⟩) 4 4] 36)
  have bX := Box.newAt w1 36 [.slice Aw nw cw, .slice (some ⟨gc, 0, none⟩) 2 2, .slice (some ⟨g6, 0, none⟩) 4 4] w1.heap.size rfl
  have hb2 := hb1.trans (hA2.mono hs1)
  have lX := bX.lt
  obtain ⟨wM, hwM⟩ : ∃ wM, wM = w1.alloc (Obj.cells #[.slice Aw nw cw, .slice (some ⟨gc, 0, none⟩) 2 2, .slice (some ⟨g6, 0, none⟩) 4 4] 36) := ⟨_, rfl⟩
  have HCm2 := Lib.hid (hcm1.kc (Kc.below (T := fun _ => False) hA2) id id id)
  have HMg2 := Lib.hid (hmg1.below hA2)
  rw [← hwM] at bX hb2 HCm2 HMg2 lX
  have hI0 : wM.ownsRow wM.heap.size 3 1 (.slice none 0 0) 0 ((tellA 0 x1).map (Value.int .i64)) := World.ownsRow_nil _ _ _ _
  have HWM := Lib.hid hwM
  clear hcm1 hmg1 hwM hA2
  go_wp2
  rw [← HWM.out]
  go_loopw [8, 9] (fun v i wr => ∃ j : Nat, j ≤ d ∧ i = .int .i64 j ∧ wr.ownsRow wM.heap.size 3 1 v j ((tellA j x1).map (Value.int .i64)) ∧ Below wM.heap.size wM wr) (fun _ i _ => d - (intOf i).toNat)
  case atStart => exact ⟨0, Nat.zero_le _, rfl, hI0, Below.refl _ _⟩
  case round =>
    clear hI0
    obtain ⟨j, hj, rfl, hown, hbel⟩ := hrel
    have hsz := hbel.size
    have hsnoc : ∀ x : Int, x1[j]?.getD 7 = x → tellA (j + 1) x1 = tellA j x1 ++ [x] := fun x hx => by simp [tellA, List.range_succ, hx]
    have HSN := Lib.hid hsnoc
    clear hsnoc
    by_cases hjd : j < d
    · by_cases hjn : j < n1
      · obtain ⟨b, o, x, rfl, hbB, hcell0, HX, hmem⟩ := h1.val hjn
        have hcell : wr.cell? ⟨b, o + j, none⟩ = some (.int .i64 x) := ((hb2.trans (hbel.mono hb2.size)).cell (p := ⟨b, o + j, none⟩) hbB).trans hcell0
        clear hmem hcell0
        go_wp2_with (at_builtin; go_must (refine app_lit eltIntS wr rfl _ _ rfl wM.heap.size _ j _ rfl (by exact hown) 1 [.int .i64 x] wr.heap.size rfl rfl rfl (one_ints _ [x]) (by omega) (by omega) hsz ?_); intro v5 w5 own5 g5 hbel5 _)
        go_roundw
        case rel =>
          refine ⟨j + 1, by omega, by go_num, ?_, hbel5 _ hbel⟩
          rw [HSN.out x (by rw [HX.out]; rfl), List.map_append]
          exact own5
        case measure => simp [intOf]; omega
      · go_wp2_with (at_builtin; go_must (refine app_lit eltIntS wr rfl _ _ rfl wM.heap.size _ j _ rfl (by exact hown) 1 [.int .i64 7] wr.heap.size rfl rfl rfl (one_ints _ [7]) (by omega) (by omega) hsz ?_); intro v5 w5 own5 g5 hbel5 _)
        go_roundw
        case rel =>
          refine ⟨j + 1, by omega, by go_num, ?_, hbel5 _ hbel⟩
          rw [HSN.out 7 (by rw [List.getElem?_eq_none (by rw [HL1.out]; omega)]; rfl), List.map_append]
          exact own5
        case measure => simp [intOf]; omega
    · obtain rfl : d = j := by omega
      clear HSN
      obtain ⟨AS, cS, rfl, hcS⟩ := own_form hown
      obtain ⟨ar, har⟩ : ∃ ar, ar = tellA d x1 := ⟨_, rfl⟩
      have harl : ar.length = d := by rw [har]; simp [tellA]
      have hari : ∀ x ∈ ar, inW x := fun x hx => by
        rw [har] at hx
        simp only [tellA, List.mem_map, List.mem_range] at hx
        obtain ⟨k, hk, rfl⟩ := hx
        cases hk1 : x1[k]? with
        | none => simp [inW]
        | some y => exact HR1.out y (List.mem_of_getElem? hk1)
      rw [← har] at hown
      have HQA := Lib.hid (QT.own hown)
      have HARL := Lib.hid harl
      have HARI := Lib.hid hari
      have HMg3 := HMg2.out.below hbel
      have HCm3 := Lib.hid (HCm2.out.kc (Kc.below (T := fun _ => False) hbel) id id id)
      have bX3 := bX.below hbel lX
      obtain ⟨rows, r1, r2, r3, r4⟩ := HMg3.row 0 (by omega)
      rw [if_pos rfl] at r1 r3 r4
      rw [putJ_len] at r1 r3
      obtain ⟨gr, cr, hts, hBg, hcr, hgl⟩ := own_pos r3 (by omega)
      rw [hts] at r3
      have y3 : ∃ u, wr.cell? ⟨gr, 3, none⟩ = some u ∧ u.oneCell' = true := by
        have h3 := r3.cellAt 3 (by omega)
        have hri : rows[1]? = some rows[1] := List.getElem?_eq_getElem (by omega)
        have hx1 : (putJ d 2)[1]? = some ⟨0, putA d 1⟩ := by simp [putJ]
        obtain ⟨A0, n0, k0, e0, _, _⟩ := r4 1 _ _ hri hx1
        rw [e0] at hri
        have := flatten_at rows 1 1 _ r2 hri (by omega)
        rw [h3, this]
        exact ⟨_, rfl, rfl⟩
      obtain ⟨u3, y3, hu3⟩ := y3
      have f3 := r3.frozenAt 3
      have z2 : wr.cell? ⟨w1.heap.size, 2, none⟩ = _ := bX3.cell 2
      simp only [List.getElem?_cons_zero, List.getElem?_cons_succ] at z2
      have y0 : wr.cell? ⟨g6, 0, none⟩ = some (.slice (some ⟨gr, 0, none⟩) 2 cr) := by
        have := HMg3.thr.cell 0
        rw [range_at _ (by omega), hts] at this
        exact this
      have hMA := HMg3.args (q := 0) (i := 1) (x := ⟨0, putA d 1⟩) (ar := ar) (by omega) ⟨by decide, by decide, by decide⟩ hts (by rw [if_pos rfl, putJ_len]) (by rw [if_pos rfl]; simp [putJ]) hcS HQA.out
      have HMA := Lib.hid hMA
      have hbw4 : Below w.heap.size w (wr.setCell ⟨gr, 3, none⟩ (.slice AS d cS)) := below_at (hb2.trans (hbel.mono hb2.size)) (Nat.le_trans hBw hBg) _ _
      have BXS := Lib.hid (bX3.kc HMA.out.2 (by decide))
      have HCmS := Lib.hid (HCm3.out.kc HMA.out.2 (by decide) (by decide) (by decide))
      have HQAS := Lib.hid (HQA.out.kc HMA.out.2 (by decide))
      obtain ⟨wR, rfl⟩ : ∃ wR, wR = wr := ⟨wr, rfl⟩
      obtain ⟨wS, hwS⟩ : ∃ wS, wS = wR.setCell ⟨gr, 3, none⟩ (.slice AS d cS) := ⟨_, rfl⟩
      have HWS := Lib.hid hwS
      have hszS : wS.heap.size = wR.heap.size := by rw [hwS]; simp
      have HMS := HMA.out.1
      have hMS2 : Mg 3 49 50 tg wS B6 g6 4 ts (fun t => if t = 0 then [⟨0, putA d 0⟩, ⟨0, ar⟩] else getJ 1) := by
        rw [hwS]
        refine Mg.congr HMS fun t ht => ?_
        by_cases ht0 : t = 0
        · rw [if_pos ht0, if_pos ht0]; rfl
        · rw [if_neg ht0, if_neg ht0, if_neg ht0]
      have hb15 := (Below.refl wS.heap.size wS).alloc (Nat.le_refl _) (Obj.cells #[.int .i64 1, .int .i64 0, .int .i64 2] 3)
      have bL := Box.newAt wS 3 [.int .i64 1, .int .i64 0, .int .i64 2] wS.heap.size rfl
      have HMgS := Lib.hid (hMS2.below hb15)
      rw [← hwS] at hbw4 BXS HCmS HQAS
      have BXS2 := Lib.hid (BXS.out.below hb15 BXS.out.lt)
      have HCmS2 := Lib.hid (HCmS.out.kc (Kc.below (T := fun _ => False) hb15) id id id)
      have HQAS2 := Lib.hid (HQAS.out.kc (Kc.below (T := fun _ => False) hb15) id)
      have hbw5 := hbw4.trans (hb15.mono hbw4.size)
      have lsz := hb15.size
      obtain ⟨wL, hwL⟩ : ∃ wL, wL = wS.alloc (Obj.cells #[.int .i64 1, .int .i64 0, .int .i64 2] 3) := ⟨_, rfl⟩
      have HWL := Lib.hid hwL
      rw [← hwL] at bL HMgS BXS2 HCmS2 HQAS2 hbw5 lsz
      have lgL := bL.lt
      have hT0 : wL.ownsRow wL.heap.size 3 1 (.slice none 0 0) (160 * 0) ((tQ 0).map (Value.int .i64)) := World.ownsRow_nil _ _ _ _
      clear r1 r2 r3 r4 HMA HMg3 hown har harl hari HMS hMS2 hwS hwL BXS HCmS HQAS hb15 hbw4 bX3
      go_wp2
      rw [← HWS.out, ← HWL.out]
      go_loopw [11, 53] (fun v i wr => ∃ q : Nat, q ≤ 3 ∧ i = .int .i64 q ∧ wr.ownsRow wL.heap.size 3 1 v (160 * q) ((tQ q).map (Value.int .i64)) ∧ Below wL.heap.size wL wr) (fun _ i _ => 3 - (intOf i).toNat)
      case atStart => exact ⟨0, by omega, rfl, hT0, Below.refl _ _⟩
      case round =>
        clear hT0 hbel hsz
        obtain ⟨q, hq, rfl, hown, hbel⟩ := hrel
        have hsz := hbel.size
        by_cases hq3 : q < 3
        · have zq : wr.cell? ⟨wR.heap.size, q, none⟩ = some (.int .i64 (tV q)) := by
            rw [← hszS, (bL.below hbel lgL).cell q]
            rcases (by omega : q = 0 ∨ q = 1 ∨ q = 2) with rfl | rfl | rfl <;> rfl
          have lq : wR.heap.size < wr.heap.size := by omega
          have hvq : 0 ≤ tV q ∧ tV q < 4 := by unfold tV; split <;> (try split) <;> omega
          obtain ⟨vq, hvqe⟩ : ∃ vq, vq = tV q := ⟨_, rfl⟩
          rw [← hvqe] at zq hvq
          have HVQ := Lib.hid hvqe
          obtain ⟨Aq, cq, rfl, hcq⟩ := own_form hown
          have hI1 : wr.ownsRow wL.heap.size 3 1 (.slice Aq (160 * q) cq) (160 * q + 0) ((tQ q ++ List.replicate 0 vq).map (Value.int .i64)) := by simpa using hown
          clear hown hvqe
          go_wp2
          have HQ3 := Lib.hid hq3
          clear hq3 zq lq
          generalize decide ((q : Int) < 3) = b54
          go_loopw [11, 14] (fun v i wr => ∃ j : Nat, j ≤ 160 ∧ i = .int .i64 j ∧ wr.ownsRow wL.heap.size 3 1 v (160 * q + j) ((tQ q ++ List.replicate j vq).map (Value.int .i64)) ∧ Below wL.heap.size wL wr) (fun _ i _ => 160 - (intOf i).toNat)
          case atStart => exact ⟨0, by omega, rfl, hI1, hbel⟩
          case round =>
            clear hI1 hbel hsz
            obtain ⟨j, hj, rfl, hown, hbel⟩ := hrel
            have hsz := hbel.size
            by_cases hj8 : j < 160
            · go_wp2_with (at_builtin; go_must (refine app_lit eltIntS wr rfl _ _ rfl wL.heap.size _ (160 * q + j) _ rfl (by exact hown) 1 [.int .i64 vq] wr.heap.size rfl rfl rfl (one_ints _ [vq]) (by omega) (by omega) hsz ?_); intro v5 w5 own5 g5 hbel5 _)
              go_roundw
              case rel =>
                refine ⟨j + 1, by omega, by go_num, ?_, hbel5 _ hbel⟩
                rw [List.replicate_succ', ← List.append_assoc, List.map_append]
                exact own5
              case measure => simp [intOf]; omega
            · have hown2 : wr.ownsRow wL.heap.size 3 1 u11 (160 * (q + 1)) ((tQ (q + 1)).map (Value.int .i64)) := by
                obtain rfl : j = 160 := by omega
                rw [Nat.mul_succ, tQ, ← HVQ.out]
                exact hown
              clear hown
              go_wp2
              go_roundw
              case rel => exact ⟨q + 1, by have := HQ3.out; omega, by go_num, hown2, hbel⟩
              case measure => have := HQ3.out; simp [intOf]; omega
        · have hq3e : q = 3 := by omega
          subst hq3e
          obtain ⟨As, cs, rfl, hlcs⟩ := own_form hown
          have hrs : RI wr wr.heap.size .i64 As (160 * 3) (tQ 3) := Rd.of_own hown
          have hbw6 := hbw5.trans (hbel.mono hbw5.size)
          have hMgR := HMgS.out.below hbel
          have hin := (HCmS2.out.kc (Kc.below (T := fun _ => False) hbel) id id id).inM HC.out hd1 hd6 hMgR (fun t ht => by
            by_cases ht0 : t = 0
            · simp only [ht0, if_true]
              refine ⟨by simp, fun x hx => ?_⟩
              simp only [List.mem_cons, List.not_mem_nil, or_false] at hx
              rcases hx with rfl | rfl
              · refine (put_th hd6 (j := 1) (by omega)).2 _ ?_
                simp [putJ]
              · exact ⟨by unfold inW; dsimp only; omega, by show ar.length ≤ _; rw [HARL.out]; omega, HARI.out⟩
            · simp only [ht0, if_false]
              exact get_th (by omega))
          have HIN : Hid (InM wr Aw nw cw (some ⟨gc, 0, none⟩) 2 2 (some ⟨g6, 0, none⟩) 4 4 (mTell c d ar)) := hin
          have bXr := BXS2.out.below hbel BXS2.out.lt
          have z0 : wr.cell? ⟨w1.heap.size, 0, none⟩ = _ := bXr.cell 0
          have z1 : wr.cell? ⟨w1.heap.size, 1, none⟩ = _ := bXr.cell 1
          have z2 : wr.cell? ⟨w1.heap.size, 2, none⟩ = _ := bXr.cell 2
          simp only [List.getElem?_cons_zero, List.getElem?_cons_succ] at z0 z1 z2
          have lXr := bXr.lt
          have HQR := Lib.hid (HQAS2.out.kc (Kc.below (T := fun _ => False) hbel) id)
          have hok := mTell_ok HC.out hd1 hd6 HARL.out
          have hR := plR_fine hok (S := tQ 3) (by rw [tQ_len]; omega) (fun x hx => by have := tQ_in 3 x hx; simpa [mTell] using this)
          obtain ⟨hne, d0, d1, d2, d3, hD4, g0', g2', g3', t0', t3'⟩ := HGood.out d ar hd1 hd6 HARL.out HARI.out
          have hrn := rn_ply _ hne
          obtain ⟨T, hT⟩ : ∃ T, T = (plyG (mTell c d ar) 0 ((tQ 3).map Int.toNat) (g0 (mTell c d ar))).out := ⟨_, rfl⟩
          obtain ⟨W, hW⟩ : ∃ W, W = (plyG (mTell c d ar) 0 ((tQ 3).map Int.toNat) (g0 (mTell c d ar))).w := ⟨_, rfl⟩
          rw [← hT, ← hW] at hR
          rw [← hT] at hD4 hrn
          have HR := Lib.hid hR
          have HRN := Lib.hid hrn
          have HD4 := Lib.hid hD4
          have HT0 := Lib.hid t0'
          have HT3 := Lib.hid t3'
          have HG0 := Lib.hid g0'
          have HG2 := Lib.hid g2'
          have HG3 := Lib.hid g3'
          clear hR hrn hne hT hW hD4 t0' t3' g0' g2' g3' hin hMgR hown hok
          have hTw := HT.out.below hbw6 HT.out.lt
          go_wp2_with fail
          refine (keep_ran HPl.out wr hTw Aw nw cw _ 2 2 _ 4 4 (mTell c d ar) As (160 * 3) cs (tQ 3) T W HIN.out hrs (by omega) HR.out HRN.out).mono ?_
          rintro e w7 ⟨A4, n4, c4, L, rfl, hlc4, hn4, HL, hD, hb7⟩
          have hLL : L.map Prod.fst = [d0, d1, d2, d3] := by rw [HL.out, HD4.out]
          have hn44 : n4 = 4 := by
            have h1 := congrArg List.length hLL
            rw [List.length_map, hD.len] at h1
            simpa using h1
          subst hn44
          have hbw7 := hbw6.trans (hb7.mono hbw6.size)
          have HQ7 := Lib.hid (HQR.out.kc (Kc.below (T := fun _ => False) hb7) id)
          obtain ⟨b, o, x, A', n', k', rfl, hbB, a0, a1, a2, a3, a4, hlk, hn', hri, _, HX⟩ := hD.val (i := 0) (by omega)
          obtain ⟨b2', o2, x2, A2, n2, k2, hA, _, e0, e1, e2, e3, e4, hlk2, hn2', hri2, _, HX2⟩ := hD.val (i := 2) (by omega)
          simp only [Option.some.injEq, Addr.mk.injEq, and_true] at hA
          obtain ⟨rfl, rfl⟩ := hA
          obtain ⟨b3', o3, x3, A3, n3, k3, hA, _, i0, i1, i2, i3, i4, hlk3, hn3', hri3, _, HX3⟩ := hD.val (i := 3) (by omega)
          simp only [Option.some.injEq, Addr.mk.injEq, and_true] at hA
          obtain ⟨rfl, rfl⟩ := hA
          have hx0 : d0 = x := by have := HX.out; rw [hLL] at this; simpa using this
          have hx2 : d2 = x2 := by have := HX2.out; rw [hLL] at this; simpa using this
          have hx3 : d3 = x3 := by have := HX3.out; rw [hLL] at this; simpa using this
          subst hx0 hx2 hx3
          have q0 : (d0.e == -1) = false := by simp; exact HG0.out
          have q2 : (d2.e == -1) = false := by simp; exact HG2.out
          have q3 : (d3.e == -1) = false := by simp; exact HG3.out
          rw [HT0.out] at hri
          rw [HT3.out] at hri3
          simp only [Nat.zero_mul, Nat.add_zero] at a0 a1 a2 a3 a4
          clear HX HX2 HX3 hLL z0 z1 z2 bXr hrs hTw
          go_wp2
          refine region_first [0, 1, 2, 3, 4] (.cons 5 (.cons 6 (seq [7, 8, 9, 10, 11, 12] (seq [13, 14, 15] .nil)))) (by kernel_rfl) (by kernel_rfl) ?_
          simp only [pick, List.map_cons, List.map_nil, List.getD_cons_zero, List.getD_cons_succ]
          go_wp2
          refine ord_call (by kernel_rfl) ?_
          simp only [pick, List.map_cons, List.map_nil, List.getD_cons_zero, List.getD_cons_succ]
          go_wp2_with (at_make; refine make_all eltIntS _ rfl _ _ rfl w7.heap.size _ _ _ _ d rfl rfl rfl rfl (by omega) (by omega) (Nat.le_refl _) ?_; intro w8 hown8 hbel8 hsz8 hgr8)
          rw [madeCells_one _ rfl] at hown8
          have hb8 : Below w7.heap.size w7 w8 := hbel8 _ (Below.refl _ _).drew
          have hz8 : RI w8 w8.heap.size .i64 (some ⟨w7.heap.size, 0, none⟩) d (List.replicate d 0) := by
            have := Rd.of_own hown8
            unfold RI
            rw [List.map_replicate]
            exact this
          have hr8 := (hri.below hb8).more hb8.size
          have hr83 := (hri3.below hb8).more hb8.size
          have HQ8 := Lib.hid (HQ7.out.kc (Kc.below (T := fun _ => False) hb8) id)
          have HX8 := Lib.hid hgr8
          clear hown8 hbel8 hgr8
          refine ⟨fun k hk => HX8.out.block k hk (by simp), ?_⟩
          refine ord_call (by kernel_rfl) ?_
          simp only [pick, List.map_cons, List.map_nil, List.getD_cons_zero, List.getD_cons_succ]
          go_wp2_with fail
          refine (keep_sameInts (List.replicate d 0) (List.replicate d 0) A' _ n' k' d d w8 w8.heap.size w8.heap.size true hr8 hz8 (by simp) (by omega) (by omega)).mono ?_
          rintro e w9 ⟨rfl, m9, rfl⟩
          have hb9 : Below w8.heap.size w8 (w8.drewN m9) := (Below.refl _ _).drewN _
          have hx9 := ext_below hb9
          obtain ⟨w9, hw9⟩ : ∃ w9, w9 = w8.drewN m9 := ⟨_, rfl⟩
          have HW9 := Lib.hid hw9
          rw [← hw9] at hb9 hx9 ⊢
          have HQ9 := Lib.hid (HQ8.out.kc (Kc.below (T := fun _ => False) hb9) id)
          have hr9 := (hr83.below hb9).more hb9.size
          have hb79 := hb8.trans (hb9.mono hb8.size)
          have c4' := (hb79.cell (p := ⟨b, o + 3 * 5 + 4, none⟩) hbB).trans i4
          have lb9 : b < w9.heap.size := Nat.lt_of_lt_of_le hbB hb79.size
          clear hw9
          go_wp2
          refine ord_more [7, 8, 9, 10, 11, 12] _ (by kernel_rfl) ?_
          simp only [pick, List.map_cons, List.map_nil, List.getD_cons_zero, List.getD_cons_succ]
          go_wp2
          refine ord_last [13, 14, 15] (by kernel_rfl) ?_
          simp only [pick, List.map_cons, List.map_nil, List.getD_cons_zero, List.getD_cons_succ]
          go_wp2_with fail
          refine (keep_sameInts ar ar A3 AS n3 k3 d cS w9 w9.heap.size w9.heap.size true hr9 HQ9.out.rd (by simp) (by omega) (by omega)).mono ?_
          rintro e w10 ⟨rfl, m10, rfl⟩
          go_wp2
          go_ret
          exact ⟨by first | rfl | simp, (hbw7.trans (hb79.mono hbw7.size)).drewN _⟩
end Go.Proofs.YtjihopbapnfppabDoor

set_option linter.unusedSimpArgs false
set_option linter.unusedVariables false
namespace Go.Baro
open Go.RowKit (wrap64)

/-- A word. -/
def rd (w : List Int) (n : Nat) : Int := w[n]?.getD 0
theorem rd_set {w : List Int} {n m : Nat} {v : Int} (h : n < w.length) : rd (w.set n v) m = if m = n then v else rd w m := by
  unfold rd
  rw [List.getElem?_set]
  by_cases hm : n = m
  · subst hm; simp [h]
  · rw [if_neg hm, if_neg (fun e => hm e.symm)]
theorem rd_same {w : List Int} {n : Nat} {v : Int} (h : n < w.length) : rd (w.set n v) n = v := by rw [rd_set h, if_pos rfl]
theorem rd_other {w : List Int} {n m : Nat} {v : Int} (h : m ≠ n) : rd (w.set n v) m = rd w m := by
  unfold rd
  rw [List.getElem?_set_ne (fun e => h e.symm)]
theorem at_rd {w : List Int} {n : Nat} (h : n < w.length) : w[n]? = some (rd w n) := by simp [rd, h]
theorem wrap_id {x : Int} (h : -9223372036854775808 ≤ x ∧ x ≤ 9223372036854775807) : wrap64 x = x := by unfold wrap64; omega

/-- A run under one more step. -/
theorem ply_snoc (m : Mc) (S : List Nat) (n : Nat) (g : Gs) : plyG m 0 (S ++ [n]) g = actG m (plyG m 0 S g) S.length n := by
  rw [plyG_append]
  simp [plyG]
/-- What holds of a run behind each part of its schedule. -/
theorem plyG_indS {m : Mc} {I : List Nat → Gs → Prop} {A : Nat → Prop} (h0 : I [] (g0 m)) (hs : ∀ S g n, A n → I S g → I (S ++ [n]) (actG m g S.length n)) : ∀ (S : List Nat), (∀ n ∈ S, A n) → I S (plyG m 0 S (g0 m)) := by
  suffices h : ∀ (k : Nat) (S : List Nat), S.length = k → (∀ n ∈ S, A n) → I S (plyG m 0 S (g0 m)) from fun S => h S.length S rfl
  intro k
  induction k with
  | zero => intro S hS _; obtain rfl := List.eq_nil_of_length_eq_zero hS; exact h0
  | succ k ih =>
    intro S hS hA
    obtain ⟨T, n, rfl⟩ : ∃ T n, S = T ++ [n] := ⟨S.dropLast, S.getLast (by rintro rfl; simp at hS), (List.dropLast_concat_getLast _).symm⟩
    rw [ply_snoc]
    exact hs T _ n (hA n (by simp)) (ih T (by simp at hS; exact hS) (fun x hx => hA x (by simp [hx])))

/-- A step of a call without an error. -/
def Nx (c : List Ins) (p : Nat) (r : Int → Int) (t w : List Int) (p' : Nat) (r' : Int → Int) (t' w' : List Int) : Prop :=
  exc ⟨c, p, r, t⟩ w = (⟨c, p', r', t'⟩, w', 0, decide (p' = c.length))
section
variable {c : List Ins} {p : Nat} {r : Int → Int} {t w : List Int} {a b k e : Int}
theorem nx_of {o : Ins} {p' : Nat} {r' : Int → Int} {t' w' : List Int} (h : c[p]? = some o) (hs : stp c.length o ⟨p, r, w, t⟩ = (⟨p', r', w', t'⟩, 0)) : Nx c p r t w p' r' t' w' := by
  have hp := (List.getElem?_eq_some_iff.1 h).1
  unfold Nx exc
  rw [if_neg (by dsimp only; omega)]
  dsimp only
  rw [Int.toNat_natCast, h, Option.getD_some, hs]
  have : decide (((0 : Int) ≠ 0) ∨ ((p' : Int) = (c.length : Int))) = decide (p' = c.length) := by
    by_cases hq : p' = c.length
    · simp [hq]
    · have : ¬ ((p' : Int) = (c.length : Int)) := by omega
      simp [hq, this]
  rw [this]
theorem nx_set (h : c[p]? = some ⟨1, a, b, 0, 0⟩) : Nx c p r t w (p + 1) (upd r a b) t w := nx_of h (by rw [stp_1]; simp)
theorem nx_copy (h : c[p]? = some ⟨2, a, b, 0, 0⟩) : Nx c p r t w (p + 1) (upd r a (r b)) t w := nx_of h (by rw [stp_2]; simp)
theorem nx_cmp {o : Int} (h : c[p]? = some ⟨o, a, b, k, 0⟩) (ho : 3 ≤ o ∧ o ≤ 9) : Nx c p r t w (p + 1) (upd r a (cmpV o (r b) (r k))) t w := nx_of h (by rw [stp_cmp ho]; simp)
theorem nx_add {v : Int} (h : c[p]? = some ⟨3, a, b, k, 0⟩) (hv : wrap64 (r b + r k) = v) : Nx c p r t w (p + 1) (upd r a v) t w := by
  have := nx_cmp (r := r) (t := t) (w := w) h (by omega)
  rwa [show cmpV 3 (r b) (r k) = v by simp [cmpV, hv]] at this
theorem nx_jump {q : Nat} (h : c[p]? = some ⟨10, q, 0, 0, 0⟩) : Nx c p r t w q r t w := nx_of h (by rw [stp_10])
theorem nx_whenN {q : Nat} (h : c[p]? = some ⟨11, a, q, 0, 0⟩) (hr : r a ≠ 0) : Nx c p r t w q r t w := nx_of h (by rw [stp_11]; simp [hr])
theorem nx_whenZ {q : Int} (h : c[p]? = some ⟨11, a, q, 0, 0⟩) (hr : r a = 0) : Nx c p r t w (p + 1) r t w := nx_of h (by rw [stp_11]; simp [hr])
theorem nx_unlZ {q : Nat} (h : c[p]? = some ⟨12, a, q, 0, 0⟩) (hr : r a = 0) : Nx c p r t w q r t w := nx_of h (by rw [stp_12]; simp [hr])
theorem nx_unlN {q : Int} (h : c[p]? = some ⟨12, a, q, 0, 0⟩) (hr : r a ≠ 0) : Nx c p r t w (p + 1) r t w := nx_of h (by rw [stp_12]; simp [hr])
theorem nx_load {q : Nat} (h : c[p]? = some ⟨13, a, b, k, 0⟩) (hq : wrap64 (r b + k) = q) (hl : q < w.length) : Nx c p r t w (p + 1) (upd r a (rd w q)) t w := nx_of h (by rw [stp_13 hq (at_rd hl)]; simp)
theorem nx_store {q : Nat} (h : c[p]? = some ⟨14, a, b, k, 0⟩) (hq : wrap64 (r b + k) = q) (hl : q < w.length) : Nx c p r t w (p + 1) r t (w.set q (r a)) := nx_of h (by rw [stp_14 hq hl]; simp)
theorem nx_casT {q : Nat} (h : c[p]? = some ⟨15, a, b, k, e⟩) (hq : wrap64 (r b + k) = q) (hl : q < w.length) (hx : rd w q = r e) : Nx c p r t w (p + 1) (upd r a 1) t (w.set q (r a)) := nx_of h (by rw [stp_15t hq (at_rd hl) hx]; simp)
theorem nx_casF {q : Nat} (h : c[p]? = some ⟨15, a, b, k, e⟩) (hq : wrap64 (r b + k) = q) (hl : q < w.length) (hx : rd w q ≠ r e) : Nx c p r t w (p + 1) (upd r a 0) t w := nx_of h (by rw [stp_15f hq (at_rd hl) hx]; simp)
theorem nx_emit (h : c[p]? = some ⟨16, a, 0, 0, 0⟩) (ht : t.length < 200) : Nx c p r t w (p + 1) r (t ++ [r a]) w := nx_of h (by rw [stp_16, if_neg (by dsimp only; omega)]; simp)
theorem nx_stop (h : c[p]? = some ⟨17, 0, 0, 0, 0⟩) : Nx c p r t w c.length r t w := nx_of h (by rw [stp_17])
/-- What a step without an error leads to. -/
theorem exG_nx {g : Gs} {st n : Nat} {p' : Nat} {r' : Int → Int} {t' w' : List Int} (hn : (g.th n).now = some ⟨c, p, r, t⟩) (h : Nx c p r t g.w p' r' t' w') :
    exG g st n = if p' = c.length then ⟨w', putT g.th n ⟨none, (g.th n).bg⟩, g.out ++ [⟨st, n, (g.th n).bg - 1, true, 0, t'⟩]⟩ else ⟨w', putT g.th n ⟨some ⟨c, p', r', t'⟩, (g.th n).bg⟩, g.out⟩ := by
  have hq : (exc ⟨c, p, r, t⟩ g.w).2.2.2 = decide (p' = c.length) := by rw [h]
  by_cases hp : p' = c.length
  · rw [if_pos hp, exG_end hn (by rw [hq]; simp [hp]), h]
  · rw [if_neg hp, exG_go hn (by rw [hq]; simp [hp]), h]
end

/-- The steps of a call so far: k of a thread's open call; no call takes more than B of its thread's. -/
def Cnt (S : List Nat) (g : Gs) (k : Nat → Nat) (B : Nat → Nat) : Prop := ∀ x ∈ dgs g.out, x.b ≤ S.length ∧ (x.e = -1 → (S.drop x.b).count x.th = k x.th) ∧ (x.e ≠ -1 → x.e + 1 ≤ S.length ∧ ((S.take (x.e + 1).toNat).drop x.b).count x.th ≤ B x.th)
def upN (f : Nat → Nat) (n v : Nat) : Nat → Nat := fun i => if i = n then v else f i
theorem upN_same (f : Nat → Nat) (n v : Nat) : upN f n v n = v := by simp [upN]
theorem upN_other (f : Nat → Nat) {n i : Nat} (v : Nat) (h : i ≠ n) : upN f n v i = f i := by simp [upN, h]
theorem cnt_zero (m : Mc) (k B : Nat → Nat) : Cnt [] (g0 m) k B := by intro x hx; simp [g0, dgs] at hx
/-- A call begins. -/
theorem cnt_begin {m : Mc} {S : List Nat} {g : Gs} {k B : Nat → Nat} {n : Nat} {c : Cl} (h : Cnt S g k B) (hs : Hs S.length S.length g) (hn : (g.th n).now = none) {T : Nat → Td} {w : List Int} :
    Cnt S ⟨w, T, g.out ++ [⟨S.length, n, (g.th n).bg, false, 0, []⟩]⟩ (upN k n 0) B := by
  intro x hx
  rw [show dgs (g.out ++ [⟨S.length, n, (g.th n).bg, false, 0, []⟩]) = dgs g.out ++ [⟨S.length, -1, n, (g.th n).bg, []⟩] by rw [dgs_snoc, dg1_begin _ _ rfl]] at hx
  rcases List.mem_append.1 hx with hx | hx
  · obtain ⟨h1, h2, h3⟩ := h x hx
    refine ⟨h1, fun he => ?_, h3⟩
    have ho := ((hs.opn x hx).1 he).1
    rw [upN_other _ _ (by rintro e; rw [e] at ho; exact ho hn)]
    exact h2 he
  · rw [List.mem_singleton.1 hx]
    refine ⟨Nat.le_refl _, fun _ => ?_, fun h => absurd rfl h⟩
    dsimp only
    rw [upN_same, List.drop_eq_nil_of_le (Nat.le_refl _)]
    rfl
/-- The step counts for the thread's open call. -/
theorem cnt_go {S : List Nat} {g g' : Gs} {k B : Nat → Nat} {n : Nat} (h : Cnt S g k B) (ho : g'.out = g.out) : Cnt (S ++ [n]) g' (upN k n (k n + 1)) B := by
  intro x hx
  rw [ho] at hx
  obtain ⟨h1, h2, h3⟩ := h x hx
  refine ⟨by rw [List.length_append]; omega, fun he => ?_, fun he => ?_⟩
  · rw [List.drop_append_of_le_length h1, List.count_append, h2 he]
    by_cases hx : x.th = n
    · rw [hx, upN_same]; simp
    · rw [upN_other _ _ hx, List.count_singleton]
      have hx' : ¬ n = x.th := fun e => hx e.symm
      simp [hx']
  · obtain ⟨h4, h5⟩ := h3 he
    refine ⟨by rw [List.length_append]; omega, ?_⟩
    rw [List.take_append_of_le_length (by omega)]
    exact h5
/-- The step ends the thread's call. -/
theorem cnt_end {S : List Nat} {g g' : Gs} {k B : Nat → Nat} {n : Nat} {x : Ev} (h : Cnt S g k B) (ho : g'.out = g.out ++ [x]) (he : x.en = true) (hs : x.st = S.length) (ht : x.th = n) (hk : k n + 1 ≤ B n)
    (hopn : ∀ d ∈ dgs g.out, d.e = -1 → d.th = n → d.is x) : Cnt (S ++ [n]) g' (upN k n (k n + 1)) B := by
  intro y hy
  rw [ho, dgs_snoc, dg1_end _ _ he] at hy
  obtain ⟨d, hd, q1, q2, q3, ⟨q4, q5, q6⟩ | ⟨q4, rfl⟩⟩ := fin_mem hy
  · obtain ⟨h1, h2, h3⟩ := h d hd
    have hde : d.e = -1 := q4.2.2
    have hdt : d.th = n := by rw [q4.1, ht]
    rw [q1, q2, q5, hs]
    refine ⟨by rw [List.length_append]; omega, fun h => by omega, fun _ => ⟨by rw [List.length_append, List.length_singleton]; omega, ?_⟩⟩
    rw [show ((S.length : Int) + 1).toNat = (S ++ [n]).length by rw [List.length_append, List.length_singleton]; omega, List.take_length, List.drop_append_of_le_length h1, List.count_append, h2 hde, hdt]
    simpa using hk
  · obtain ⟨h1, h2, h3⟩ := h y hd
    refine ⟨by rw [List.length_append]; omega, fun he => ?_, fun he => ?_⟩
    · have hx : y.th ≠ n := fun e => q4 (hopn y hd he e)
      rw [List.drop_append_of_le_length h1, List.count_append, h2 he, upN_other _ _ hx, List.count_singleton]
      have hx' : ¬ n = y.th := fun e => hx e.symm
      simp [hx']
    · obtain ⟨h4, h5⟩ := h3 he
      refine ⟨by rw [List.length_append]; omega, ?_⟩
      rw [List.take_append_of_le_length (by omega)]
      exact h5
/-- The calls behind an end: all but the one that has ended are as they were. -/
theorem dgs_end {g : Gs} {sb se n : Nat} {x : Ev} (hs : Hs sb se g) (hn : (g.th n).now ≠ none) (he : x.en = true) (ht : x.th = n) (hc : x.cl = (g.th n).bg - 1) :
    ∃ o ∈ dgs g.out, o.th = n ∧ o.cl = (g.th n).bg - 1 ∧ o.e = -1 ∧ (∀ y ∈ dgs g.out, y.e = -1 → y.th = n → y = o ∧ y.is x) ∧
      (∀ y ∈ dgs (g.out ++ [x]), (y ∈ dgs g.out ∧ y ≠ o ∧ ¬ (y.th = n ∧ y.cl = (g.th n).bg - 1)) ∨ y = ⟨o.b, x.st, n, (g.th n).bg - 1, x.to⟩) ∧
      (∀ y ∈ dgs g.out, y ≠ o → y ∈ dgs (g.out ++ [x])) ∧ ⟨o.b, x.st, n, (g.th n).bg - 1, x.to⟩ ∈ dgs (g.out ++ [x]) := by
  obtain ⟨o, ho, h1, h2, h3, h4⟩ := hs.live hn
  have hu : ∀ y ∈ dgs g.out, y.e = -1 → y.th = n → y = o := fun y hy he hyn => hs.one y hy o ho (by rw [hyn, h1]) (by
    have := ((hs.opn y hy).1 he).2
    rw [hyn] at this; omega)
  have hiso : o.is x := ⟨by rw [h1, ht], by rw [h2, hc], h3⟩
  have hD : dgs (g.out ++ [x]) = (dgs g.out).map (fun d => d.fin x) := by rw [dgs_snoc, dg1_end _ _ he]
  have hfo : o.fin x = ⟨o.b, x.st, n, (g.th n).bg - 1, x.to⟩ := by unfold Dg.fin; rw [if_pos hiso, h1, h2]
  refine ⟨o, ho, h1, h2, h3, fun y hy he' hyn => ⟨hu y hy he' hyn, by rw [hu y hy he' hyn]; exact hiso⟩, fun y hy => ?_, fun y hy hne => ?_, ?_⟩
  · rw [hD] at hy
    obtain ⟨d, hd, rfl⟩ := List.mem_map.1 hy
    by_cases hdo : d = o
    · subst hdo; exact .inr hfo
    · have hnis : ¬ d.is x := fun hi => hdo (hu d hd hi.2.2 (by rw [hi.1, ht]))
      have : d.fin x = d := by unfold Dg.fin; rw [if_neg hnis]
      rw [this]
      exact .inl ⟨hd, hdo, fun hh => hdo (hs.one d hd o ho (by rw [hh.1, h1]) (by rw [hh.2, h2]))⟩
  · rw [hD]
    refine List.mem_map.2 ⟨y, hy, ?_⟩
    unfold Dg.fin
    rw [if_neg]
    intro hi
    exact hne (hu y hy hi.2.2 (by rw [hi.1, ht]))
  · rw [hD]; exact List.mem_map.2 ⟨o, ho, hfo⟩
/-- The calls behind a beginning. -/
theorem dgs_begin (g : Gs) (st n c : Nat) : dgs (g.out ++ [⟨st, n, c, false, 0, []⟩]) = dgs g.out ++ [⟨st, -1, n, c, []⟩] := by rw [dgs_snoc, dg1_begin _ _ rfl]
end Go.Baro
