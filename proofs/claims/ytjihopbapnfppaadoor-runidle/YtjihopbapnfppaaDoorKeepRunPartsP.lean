/- The walk of RunParts, from what is asked of run.Play. No statement of the seat is proved here. -/
import Derived.Test.YtjihopbapnfppaaDoorKeepMach
import Derived.Test.YtjihopbapnfppaaDoorKeepMach2
import Derived.Test.YtjihopbapnfppaaDoorRunPure2
set_option linter.unusedSimpArgs false
set_option linter.unusedVariables false
namespace Go.Proofs.YtjihopbapnfppaaDoor
open Go.RowKit Go.Ord Go.Baro

/-- A schedule of numbers below three. -/
theorem plR_good {x0 x1 : List Ins} {T : Nat → List Cl} {s : List Int} (hT : ∀ i, i < 3 → okDs (T i)) (hl : s.length ≤ 6000) (hs : ∀ x ∈ s, 0 ≤ x ∧ x < 3) :
    PlR (mD x0 x1 T) s (plyG (mD x0 x1 T) 0 (s.map Int.toNat) (g0 (mD x0 x1 T))).out (plyG (mD x0 x1 T) 0 (s.map Int.toNat) (g0 (mD x0 x1 T))).w 0 :=
  .inr (.inr (.inr ⟨mD_ok hT, hl, fun x hx => hs x hx, rfl, rfl, rfl⟩))

set_option maxRecDepth 100000 in
set_option maxHeartbeats 2000000 in
theorem keep_RunPartsP (hP : PlaySpec) (w : World) (hT : Tab w) (A0 : Option Addr) (n0 c0 : Nat) (x0 : List Ins) (h0 : RO w w.heap.size A0 n0 x0) (b0 : n0 ≤ 3518437208883) (r0 : ∀ f ∈ x0, inI f) (_ : n0 ≤ c0)
    (A1 : Option Addr) (n1 c1 : Nat) (x1 : List Ins) (h1 : RO w w.heap.size A1 n1 x1) (b1 : n1 ≤ 3518437208883) (r1 : ∀ f ∈ x1, inI f) (_ : n1 ≤ c1)
    (A2 : Option Addr) (n2 c2 : Nat) (x2 : List Int) (h2 : RI w w.heap.size .i64 A2 n2 x2) (b2 : n2 ≤ 17592186044416) (r2 : ∀ x ∈ x2, -9223372036854775808 ≤ x ∧ x ≤ 9223372036854775807) (_ : n2 ≤ c2)
    (A3 : Option Addr) (n3 c3 : Nat) (x3 : List Int) (h3 : RI w w.heap.size .u8 A3 n3 x3) (b3 : n3 ≤ 140737488351232) (r3 : ∀ x ∈ x3, 0 ≤ x ∧ x < 256) (_ : n3 ≤ c3)
    (x4 : Int) (r4 : -9223372036854775808 ≤ x4 ∧ x4 ≤ 9223372036854775807) :
    Calls Tryd.prog 11 #[.slice A0 n0 c0, .slice A1 n1 c1, .slice A2 n2 c2, .slice A3 n3 c3, .int .i64 x4] w fun e w' => e = .returned (.bool true) ∧ Below w.heap.size w w' := by
  have HP := Lib.hid hP
  have HT := Lib.hid hT
  have H2 := Lib.hid (show ∀ x ∈ x2, inW x from r2)
  have H3 := Lib.hid r3
  clear hP hT r0 r1 r2 r3
  go_enter Tryd.func11, Tryd.ntmps11
  go_wp2_with fail
  refine (keep_MachineOf w A0 A1 A2 n0 c0 n1 c1 n2 c2 x0 x1 x2 h0 b0 h1 b1 h2 b2 H2.out).mono ?_
  rintro e w1 ⟨tg, gw, gc, g6, v0, v1, ts, rfl, hMo, hb1⟩
  have hs1 := hb1.size
  have hA1 := (Below.refl w1.heap.size w1).alloc (Nat.le_refl _) (Obj.cells #[.slice (some ⟨gw, 0, none⟩) 8 8, .slice (some ⟨gc, 0, none⟩) 2 2, .slice (some ⟨g6, 0, none⟩) 3 3] 45)
  have bX := Box.newAt w1 45 [.slice (some ⟨gw, 0, none⟩) 8 8, .slice (some ⟨gc, 0, none⟩) 2 2, .slice (some ⟨g6, 0, none⟩) 3 3] w1.heap.size rfl
  have hbA := hb1.trans (hA1.mono hs1)
  have HMo := Lib.hid (hMo.below hA1)
  clear hMo h0 h1 h2
  go_wp2_with fail
  refine (keep_Schedule x3 A3 n3 c3 _ ((h3.below hbA).more hbA.size) (by omega) H3.out).mono ?_
  rintro e w2 ⟨As, ns, cs, rfl, hrs, hlcs, hns, hb2⟩
  have hbB := hbA.trans (hb2.mono hbA.size)
  have bX2 := bX.below hb2 (by simp)
  have HMo2 := Lib.hid (HMo.out.below hb2)
  have hs2 := hb2.size
  simp at hs2
  clear HMo bX
  go_wp2_with fail
  refine (keep_Picked x4 ((ns : Int) + 1) w2 (by omega) (by omega)).mono ?_
  rintro e w' ⟨rfl, rfl⟩
  have hk0 := Int.emod_nonneg x4 (show ((ns : Int) + 1) ≠ 0 by omega)
  have hk1 := Int.emod_lt_of_pos x4 (show 0 < ((ns : Int) + 1) by omega)
  obtain ⟨k, hk⟩ : ∃ k : Nat, x4 % ((ns : Int) + 1) = k := ⟨(x4 % ((ns : Int) + 1)).toNat, by omega⟩
  have hkn : k ≤ ns := by omega
  rw [hk]
  have HK := Lib.hid hk
  have LS := Lib.hid hrs.len
  have z0 : w2.cell? ⟨w1.heap.size, 0, none⟩ = _ := bX2.cell 0
  have z1 : w2.cell? ⟨w1.heap.size, 1, none⟩ = _ := bX2.cell 1
  have z2 : w2.cell? ⟨w1.heap.size, 2, none⟩ = _ := bX2.cell 2
  simp only [List.getElem?_cons_zero, List.getElem?_cons_succ] at z0 z1 z2
  have lX := bX2.lt
  clear hk hk0 hk1
  go_wp2
  refine region_first [0, 1, 2, 3] (.cons 4 (seq [5, 6, 7, 8, 9, 10, 11, 12] .nil)) (by kernel_rfl) (by kernel_rfl) ?_
  simp only [pick, List.map_cons, List.map_nil, List.getD_cons_zero, List.getD_cons_succ]
  go_wp2
  refine ord_call (by kernel_rfl) ?_
  simp only [pick, List.map_cons, List.map_nil, List.getD_cons_zero, List.getD_cons_succ]
  go_wp2_with (at_builtin; go_must (refine app_src eltIntS w2.drew rfl _ _ rfl w2.heap.size _ 0 [] rfl (World.ownsRow_nil _ _ _ _) As k _ (((schL x3).take k).map (Value.int .i64)) rfl w2.heap.size (by exact Rd.heap (RI.take hrs hkn) rfl) (one_ints _ _) (by omega) (by omega) (Nat.le_refl _) ?_); intro v3 w3 hv3 hg3 hbel3 hsz3)
  have hb3 : Below w2.heap.size w2 w3 := hbel3 w2 (Below.refl _ _).drew
  rw [List.nil_append, Nat.zero_add] at hv3
  obtain ⟨A4, c4, rfl, hlc4⟩ := own_form hv3
  refine ⟨fun k hk => hb3.block k hk, ?_⟩
  have hr4 : RI w3 w3.heap.size .i64 A4 k ((schL x3).take k) := Rd.of_own hv3
  have hbC := hbB.trans (hb3.mono hbB.size)
  have bX3 := bX2.below hb3 lX
  have HMo3 := Lib.hid (HMo2.out.below hb3)
  have hrs3 := (hrs.below hb3).more hb3.size
  have lX3 := bX3.lt
  obtain ⟨S, hS⟩ : ∃ S, S = schL x3 := ⟨_, rfl⟩
  have hSl : S.length = ns := by rw [hS]; exact LS.out
  have hSi : ∀ x ∈ S, 0 ≤ x ∧ x < 3 := fun x hx => schL_in (hS ▸ hx)
  rw [← hS] at hrs3 hr4
  obtain ⟨M, hM⟩ : ∃ M, M = mD x0 x1 (thL x2) := ⟨_, rfl⟩
  obtain ⟨T1, hT1⟩ : ∃ T1, T1 = (plyG M 0 ((S.take k).map Int.toNat) (g0 M)).out := ⟨_, rfl⟩
  obtain ⟨W1, hW1⟩ : ∃ W1, W1 = (plyG M 0 ((S.take k).map Int.toNat) (g0 M)).w := ⟨_, rfl⟩
  obtain ⟨T2, hT2⟩ : ∃ T2, T2 = (plyG M 0 (S.map Int.toNat) (g0 M)).out := ⟨_, rfl⟩
  obtain ⟨W2, hW2⟩ : ∃ W2, W2 = (plyG M 0 (S.map Int.toNat) (g0 M)).w := ⟨_, rfl⟩
  have hR1 : PlR M (S.take k) T1 W1 0 := by
    have := plR_good (x0 := x0) (x1 := x1) (s := S.take k) (fun i _ => thL_ok x2 i) (by simp; omega) (fun x hx => hSi x (List.mem_of_mem_take hx))
    rw [← hM, ← hT1, ← hW1] at this
    exact this
  have hR2 : PlR M S T2 W2 0 := by
    have := plR_good (x0 := x0) (x1 := x1) (s := S) (fun i _ => thL_ok x2 i) (by omega) hSi
    rw [← hM, ← hT2, ← hW2] at this
    exact this
  obtain ⟨es, hes, hst⟩ : ∃ es, T2 = T1 ++ es ∧ ∀ e ∈ es, k ≤ e.st := by
    obtain ⟨es, h1, h2⟩ := run_parts M ((S.take k).map Int.toNat) ((S.drop k).map Int.toNat)
    rw [← List.map_append, List.take_append_drop, ← hT2, ← hT1] at h1
    refine ⟨es, h1, fun e he => ?_⟩
    have := h2 e he
    simp at this
    omega
  have HR1 := Lib.hid hR1
  have HR2 := Lib.hid hR2
  have HES := Lib.hid hes
  have HST := Lib.hid hst
  have HInM : Hid (∀ w', Below w3.heap.size w3 w' → InM w' (some ⟨gw, 0, none⟩) 8 8 (some ⟨gc, 0, none⟩) 2 2 (some ⟨g6, 0, none⟩) 3 3 M) := fun w' hb => by rw [hM]; exact (HMo3.out.inM (fun i _ => thL_ok x2 i)).below hb
  clear hS hSl hSi hM hT1 hW1 hT2 hW2 hR1 hR2 hes hst HMo2 HMo3 hv3 hg3 hbel3 bX2 z0 z1 z2
  have y0 : w3.cell? ⟨w1.heap.size, 0, none⟩ = _ := bX3.cell 0
  have y1 : w3.cell? ⟨w1.heap.size, 1, none⟩ = _ := bX3.cell 1
  have y2 : w3.cell? ⟨w1.heap.size, 2, none⟩ = _ := bX3.cell 2
  simp only [List.getElem?_cons_zero, List.getElem?_cons_succ] at y0 y1 y2
  refine ord_last [5, 6, 7, 8, 9, 10, 11, 12] (by kernel_rfl) ?_
  simp only [pick, List.map_cons, List.map_nil, List.getD_cons_zero, List.getD_cons_succ]
  go_wp2_with fail
  refine (HP.out w3 (HT.out.below hbC HT.out.lt) _ 8 8 _ 2 2 _ 3 3 M A4 k c4 (S.take k) T1 W1 0 (HInM.out w3 (Below.refl _ _)) hr4 (by omega) HR1.out).mono ?_
  rintro e w4 ⟨B1, m1, d1, B2, m2, d2, rfl, hr1, hr2, hl1, hl2, hm1, hm2, hb4⟩
  have hbD := hbC.trans (hb4.mono hbC.size)
  have bX4 := bX3.below hb4 lX3
  have lX4 := bX4.lt
  have hrs4 := (hrs3.below hb4).more hb4.size
  clear y0 y1 y2 hr2 bX3
  have y0 : w4.cell? ⟨w1.heap.size, 0, none⟩ = _ := bX4.cell 0
  have y1 : w4.cell? ⟨w1.heap.size, 1, none⟩ = _ := bX4.cell 1
  have y2 : w4.cell? ⟨w1.heap.size, 2, none⟩ = _ := bX4.cell 2
  simp only [List.getElem?_cons_zero, List.getElem?_cons_succ] at y0 y1 y2
  go_wp2
  refine region_first [0, 1] (.cons 2 (seq [3, 4, 5, 6, 7, 8, 9, 10] .nil)) (by kernel_rfl) (by kernel_rfl) ?_
  simp only [pick, List.map_cons, List.map_nil, List.getD_cons_zero, List.getD_cons_succ]
  go_wp2
  refine ord_call (by kernel_rfl) ?_
  simp only [pick, List.map_cons, List.map_nil, List.getD_cons_zero, List.getD_cons_succ]
  go_wp2_with (at_builtin; go_must (refine app_src eltIntS w4.drew rfl _ _ rfl w4.heap.size _ 0 [] rfl (World.ownsRow_nil _ _ _ _) As ns _ (S.map (Value.int .i64)) rfl w4.heap.size (by exact Rd.heap hrs4 rfl) (one_ints _ _) (by omega) (by omega) (Nat.le_refl _) ?_); intro v5 w5 hv5 hg5 hbel5 hsz5)
  have hb5 : Below w4.heap.size w4 w5 := hbel5 w4 (Below.refl _ _).drew
  rw [List.nil_append, Nat.zero_add] at hv5
  obtain ⟨A6, c6, rfl, hlc6⟩ := own_form hv5
  refine ⟨fun k hk => hb5.block k hk, ?_⟩
  have hr6 : RI w5 w5.heap.size .i64 A6 ns S := Rd.of_own hv5
  have hbE := hbD.trans (hb5.mono hbD.size)
  have hr15 := (hr1.below hb5).more hb5.size
  clear y0 y1 y2 hv5 hg5 hbel5
  refine ord_last [3, 4, 5, 6, 7, 8, 9, 10] (by kernel_rfl) ?_
  simp only [pick, List.map_cons, List.map_nil, List.getD_cons_zero, List.getD_cons_succ]
  go_wp2_with fail
  refine (HP.out w5 (HT.out.below hbE HT.out.lt) _ 8 8 _ 2 2 _ 3 3 M A6 ns c6 S T2 W2 0 (HInM.out w5 (hb4.trans (hb5.mono hb4.size))) hr6 (by omega) HR2.out).mono ?_
  rintro e w6 ⟨B3, m3, d3, B4, m4, d4, rfl, hr3, hr4', hl3, hl4, hm3, hm4, hb6⟩
  have hbF := hbE.trans (hb6.mono hbE.size)
  have hr16 := (hr15.below hb6).more hb6.size
  have hm13 : m1 ≤ m3 := by rw [← hr16.len, ← hr3.len, HES.out]; simp
  clear hr4' hr15 hr1 hr6
  go_wp2_with fail
  refine (keep_runSure HP.out w6 (HT.out.below hbF HT.out.lt)).mono ?_
  rintro e w7 ⟨rfl, hb7⟩
  have hbG := hbF.trans (hb7.mono hbF.size)
  have hX := (hr16.below hb7).more hb7.size
  have hY := (hr3.below hb7).more hb7.size
  clear hr16 hr3
  go_wp2
  generalize decide (m3 < m1) = d65
  go_loopw [20] (fun i wr => ∃ j : Nat, j ≤ m3 ∧ i = .int .i64 j ∧ Below w7.heap.size w7 wr) (fun i _ => m3 - (intOf i).toNat)
  case atStart => exact ⟨0, Nat.zero_le _, rfl, Below.refl _ _⟩
  case round =>
    obtain ⟨j, hj, rfl, hbel⟩ := hrel
    have hszr := hbel.size
    by_cases hjm : j < m3
    · obtain ⟨b', o', A9, n9, k9, y, rfl, hbB', p0, p1, p2, p3, p4, p5, hlk', hn9, hri', HY, hmem'⟩ := (hY.below hbel).val hjm
      have hlb' : b' < wr.heap.size := by omega
      by_cases hjx : j < m1
      · obtain ⟨b, o, A8, n8, k8, x, rfl, hbB, q0, q1, q2, q3, q4, q5, hlk, hn8, hri, HX, hmem⟩ := (hX.below hbel).val hjx
        have hxy : y = x := by
          have h1 := HY.out
          rw [HES.out, List.getElem?_append_left (List.getElem?_eq_some_iff.1 HX.out).1, HX.out] at h1
          exact (Option.some.inj h1).symm
        subst hxy
        obtain ⟨st, th, cl, en, er, to⟩ := y
        dsimp only at q0 q1 q2 q3 q4 p0 p1 p2 p3 p4 hri hri'
        have hlb : b < wr.heap.size := by omega
        have h8 := hri.more hszr
        have h9 := hri'.more hszr
        clear hmem hmem' HX HY hri hri'
        go_wp2
        refine region_first [0, 1, 2, 3, 4, 5, 6, 7, 8, 9, 10, 11, 12] (.cons 13 (seq [14, 15, 16, 17, 18, 19, 20, 21, 22, 23, 24, 25, 26, 27, 28, 29, 30] .nil)) (by kernel_rfl) (by kernel_rfl) ?_
        simp only [pick, List.map_cons, List.map_nil, List.getD_cons_zero, List.getD_cons_succ]
        go_wp2
        refine ord_call (by kernel_rfl) ?_
        simp only [pick, List.map_cons, List.map_nil, List.getD_cons_zero, List.getD_cons_succ]
        go_wp2_with fail
        refine (keep_sameEvent _ st th cl en er to A8 A9 n8 k8 n9 k9 (by exact Rd.heap h8 rfl) (by exact Rd.heap h9 rfl) hn8 hn9).mono ?_
        rintro e w9 ⟨rfl, hb9⟩
        have hE := Lib.hid hb9.block
        have hbel9 : Below w7.heap.size w7 w9 := hbel.drew.trans (hb9.mono hszr)
        have s0 : w9.cell? ⟨b', o' + j * 6, none⟩ = some (.int .i64 st) := (hb9.cell (p := ⟨b', o' + j * 6, none⟩) hlb').trans p0
        clear hb9
        go_wp2
        refine ⟨hE.out, ?_⟩
        refine ord_more [14, 15, 16, 17, 18, 19, 20, 21, 22, 23, 24, 25, 26, 27, 28, 29, 30] .nil (by kernel_rfl) ?_
        simp only [pick, List.map_cons, List.map_nil, List.getD_cons_zero, List.getD_cons_succ]
        go_wp2
        refine ord_done ?_
        go_wp2
        go_roundw
        case rel => exact ⟨j + 1, by omega, by go_num, hbel9⟩
        case measure => simp [intOf]; omega
      · have hge : k ≤ y.st := by
          refine HST.out y ?_
          have h1 := HY.out
          rw [HES.out, List.getElem?_append_right (by rw [hX.len]; omega)] at h1
          exact List.mem_of_getElem? h1
        obtain ⟨st, th, cl, en, er, to⟩ := y
        dsimp only at p0 p1 p2 p3 p4 hge
        clear hmem' HY hri'
        go_wp2
        refine region_first [0, 1, 2, 3, 4, 5, 6, 7, 8, 9, 10, 11, 12] (.cons 13 (seq [14, 15, 16, 17, 18, 19, 20, 21, 22, 23, 24, 25, 26, 27, 28, 29, 30] .nil)) (by kernel_rfl) (by kernel_rfl) ?_
        simp only [pick, List.map_cons, List.map_nil, List.getD_cons_zero, List.getD_cons_succ]
        go_wp2
        refine ord_call (by kernel_rfl) ?_
        simp only [pick, List.map_cons, List.map_nil, List.getD_cons_zero, List.getD_cons_succ]
        go_wp2
        refine ord_more [14, 15, 16, 17, 18, 19, 20, 21, 22, 23, 24, 25, 26, 27, 28, 29, 30] .nil (by kernel_rfl) ?_
        simp only [pick, List.map_cons, List.map_nil, List.getD_cons_zero, List.getD_cons_succ]
        go_wp2
        refine ord_done ?_
        go_wp2
        go_roundw
        case rel => exact ⟨j + 1, by omega, by go_num, hbel.drew⟩
        case measure => simp [intOf]; omega
    · go_wp2
      go_ret
      exact ⟨rfl, hbG.trans (hbel.mono hbG.size)⟩
end Go.Proofs.YtjihopbapnfppaaDoor
