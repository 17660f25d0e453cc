/- Every sample is in exactly one bucket, in order, and the join of the rolls of all buckets is the roll of all samples: the law's call returns true, for every input. No condition but the row's own: the table zig.prefixes holds what the program's text lays there. -/
import Derived.Test.YtnpabbinckcbaaaDoorRoll3
import Derived.Test.YtnpabbinckcbaaaDoorBucketPure2
import Derived.Test.YtnpabbinckcbaaaDoorKeepSamples
import Derived.Test.YtnpabbinckcbaaaDoorRollWin
set_option linter.unusedSimpArgs false
set_option linter.unusedVariables false
namespace Go.Proofs.YtnpabbinckcbaaaDoor
open Go.ChangeShapes Go.WideShapes Go.ChangeAt Go.RowKit Go.Ord Go.Baro

theorem bkF_at {d : Int} {P : List (List (Int × Int))} {j : Nat} {f : Int × Int} (h : (bkF d P)[j]? = some f) : ∃ p, P[j]? = some p ∧ fO d p = f := by
  unfold bkF at h
  rw [List.getElem?_map] at h
  exact Option.map_eq_some_iff.1 h
theorem bkR_at {P : List (List (Int × Int))} {j : Nat} {r : Rl} {p : List (Int × Int)} (h : (bkR P)[j]? = some r) (hp : P[j]? = some p) : rO p = r := by
  unfold bkR at h
  rw [List.getElem?_map, hp] at h
  simpa using h
theorem rO_c (p : List (Int × Int)) : (rO p).c = p.length := by unfold rO; rw [rollV_c, valS_len]

theorem cell_same {B b o : Nat} {w4 wr wq : World} {v : Value} (h1 : Below B w4 wr) (h2 : Below B w4 wq) (hb : b < B) (h : wr.cell? ⟨b, o, none⟩ = some v) : wq.cell? ⟨b, o, none⟩ = some v := (h2.cell hb).trans ((h1.cell hb).symm.trans h)

set_option maxRecDepth 100000 in
set_option maxHeartbeats 40000000 in
theorem keep_BucketsAll (w : World) (hT : Tab w) (A0 : Option Addr) (n0 c0 : Nat) (x0 : List (Int × Int × Bool)) (h0 : RD w w.heap.size A0 n0 x0) (b0 : n0 ≤ 5864062014805) (r0 : ∀ f ∈ x0, (-9223372036854775808 ≤ f.1 ∧ f.1 ≤ 9223372036854775807) ∧ -9223372036854775808 ≤ f.2.1 ∧ f.2.1 ≤ 9223372036854775807) (l0 : n0 ≤ c0)
    (x1 : Int) (r1 : -9223372036854775808 ≤ x1 ∧ x1 ≤ 9223372036854775807) (x2 : Int) (r2 : -9223372036854775808 ≤ x2 ∧ x2 ≤ 9223372036854775807) :
    Calls Tryd.prog 7 #[.slice A0 n0 c0, .int .i64 x1, .int .i64 x2] w fun e w' => e = .returned (.bool true) ∧ Below w.heap.size w w' := by
  have lT := hT.lt
  go_enter Tryd.func7, Tryd.ntmps7
  go_wp2_with fail
  refine (keep_SamplesV x0 A0 n0 c0 x1 90 _ h0 b0 r0 r1 (by omega)).mono ?_
  rintro e w1 ⟨v1, S, rfl, HS, HV, hSl, hown1, hA1⟩
  have hT1 := hT.below hA1 lT
  have hC := HS.out.ch (by omega)
  have HC := Lib.hid hC
  clear hC r0 r1
  obtain ⟨N, hown, hN⟩ := own_count hown1
  have HN := Lib.hid hN.symm
  rw [← hN] at hSl
  clear hN hown1
  obtain ⟨B1, cp, rfl, hcp⟩ := own_form hown
  have hR1 : RF w1 w1.heap.size B1 N S := Rd.of_own hown
  clear hown
  obtain ⟨t, ht⟩ : ∃ t, t = ofR S := ⟨_, rfl⟩
  have Hr := Lib.hid (ht.trans (ofR_ok HC.out)).symm
  have Ht := Lib.hid ht
  have htc : t.c = (N : Int) := by rw [← Hr.out, rollV_c, valS_len, HN.out]
  clear ht
  obtain ⟨tc, tl, th, tz⟩ := t
  dsimp only at htc
  subst htc
  obtain ⟨q, hq⟩ := Int.eq_ofNat_of_zero_le (Int.emod_nonneg x2 (b := 500) (by decide))
  have hql : q < 500 := by
    have := Int.emod_lt_of_pos x2 (b := 500) (by decide)
    omega
  have HQ := Lib.hid hq
  clear hq
  have hd1 : (1 : Int) ≤ 1 + (q : Int) := by omega
  obtain ⟨k, hk⟩ : ∃ k, k = (bkP (1 + (q : Int)) S).length := ⟨_, rfl⟩
  have hkN : k ≤ N := by rw [hk, ← HN.out]; exact (bk_ok _ S).len
  have HK := Lib.hid hk.symm
  clear hk
  have HE := Lib.hid (bu_ok (l := S) (d := 1 + (q : Int)) ⟨hd1, by omega⟩ HC.out (by rw [HK.out]; omega))
  go_wp2_with fail
  refine (keep_Picked _ _ _ (by omega) (by omega)).mono ?_
  rintro e w' ⟨rfl, rfl⟩
  rw [HQ.out]
  go_wp2_with fail
  refine (roll_Buckets S _ _ _ (1 + (q : Int)) _ hT1 hR1 (by omega)).mono ?_
  rintro e w2 ⟨v2, v3, rfl, hF2, hR2, hb2⟩
  rw [HE.out.1]
  rw [HE.out.2, HK.out] at hF2 hR2
  obtain ⟨A1, cA1, rfl, _⟩ := own_form hF2
  obtain ⟨A2, cA2, rfl, _⟩ := own_form hR2
  have f2 : RF w2 w2.heap.size A1 k (bkF (1 + (q : Int)) (bkP (1 + (q : Int)) S)) := Rd.of_own hF2
  have g2 : RR w2 w2.heap.size A2 k (bkR (bkP (1 + (q : Int)) S)) := Rd.of_own hR2
  have hA2 := hA1.trans (hb2.mono hA1.size)
  have hS2 := (hR1.below hb2).more hb2.size
  clear hF2 hR2 hb2 hR1 hT1 hA1
  go_wp2_with fail
  refine (roll_Of S _ _ _ ⟨(N : Int), tl, th, tz⟩ 0 _ (hT.below hA2 lT) hS2 (by omega) Ht.out HC.out.symm).mono ?_
  rintro e w3 ⟨rfl, hb3⟩
  have hA3 := hA2.trans (hb3.mono hA2.size)
  have hb3' := hb3.alloc hb3.size (Obj.cells #[.int .i64 (N : Int), .int .i64 tl, .int .i64 th, .int .i64 tz] 24)
  have hA4 := hA3.alloc hA3.size (Obj.cells #[.int .i64 (N : Int), .int .i64 tl, .int .i64 th, .int .i64 tz] 24)
  have hS4 := (hS2.below hb3').more hb3'.size
  have f4 := (f2.below hb3').more hb3'.size
  have g4 := (g2.below hb3').more hb3'.size
  have bT4 := Box.newAt w3 24 [.int .i64 (N : Int), .int .i64 tl, .int .i64 th, .int .i64 tz] _ rfl
  have z4 : (w3.alloc (Obj.cells #[.int .i64 (N : Int), .int .i64 tl, .int .i64 th, .int .i64 tz] 24)).heap.size = w3.heap.size + 1 := by simp
  rw [z4] at hS4 f4 g4
  generalize hw4 : w3.alloc (Obj.cells #[.int .i64 (N : Int), .int .i64 tl, .int .i64 th, .int .i64 tz] 24) = w4 at *
  clear hS2 f2 g2 hA2 hA3 hb3 hb3'
  have hwz : w.heap.size ≤ w3.heap.size + 1 := by have := hA4.size; omega
  unfold rlV
  dsimp only
  go_wp2
  go_loopw [15, 16] (fun at' i wr => ∃ (j a : Nat) (sc sl sh sz : Int), j ≤ k ∧ a ≤ N ∧ at' = .int .i64 a ∧ i = .int .i64 j ∧ Hid (a = (upTo (1 + (q : Int)) S j).length) ∧ Hid (rollV (valS (upTo (1 + (q : Int)) S j)) = ⟨sc, sl, sh, sz⟩) ∧ Box wr (w3.heap.size + 1) 24 [.int .i64 sc, .int .i64 sl, .int .i64 sh, .int .i64 sz] ∧ Below (w3.heap.size + 1) w4 wr ∧ Below w.heap.size w wr) (fun _ i _ => k - (intOf i).toNat)
  case atStart =>
    subst hw4
    refine ⟨0, 0, 0, 0, 0, 0, Nat.zero_le _, Nat.zero_le _, rfl, rfl, rfl, rfl, ?_, ?_, ?_⟩
    · exact Box.newAt _ 24 (rlC rl0) _ z4.symm
    · exact (Below.refl (w3.heap.size + 1) _).alloc (Nat.le_of_eq z4.symm) _
    · exact hA4.alloc hA4.size _
  case round =>
    obtain ⟨j, a, sc, sl, sh, sz, hj, haN, rfl, rfl, HA, HR, bS, hbel, hAr⟩ := hrel
    have hlS := bS.lt
    obtain ⟨cS0, cS1, cS2, cS3⟩ := bS.cells4
    obtain ⟨zS0, zS1, zS2, zS3⟩ := bS.frozen4
    have hS5 := hS4.below hbel
    have f5 := f4.below hbel
    have g5 := g4.below hbel
    have bT5 := bT4.below hbel (by omega)
    obtain ⟨cT0, cT1, cT2, cT3⟩ := bT5.cells4
    by_cases hlt : j < k
    · obtain ⟨bF, oF, B, y0, rfl, hbF, hB0, hB1, HBF, _⟩ := f5.val hlt
      obtain ⟨bR, oR, qc, ql, qh, qz, rfl, hbR, hq0, hq1, hq2, hq3, HBR⟩ := g5.val hlt
      obtain ⟨p, hp, hfo⟩ := bkF_at HBF.out
      have hro := bkR_at HBR.out hp
      have hqc : qc = (p.length : Int) := by rw [← rO_c, hro]
      subst hqc
      obtain ⟨k1, k2, k3, k4, k5, k6, k7, k8, k9⟩ := bk_round hd1 HC.out HV.out hp
      rw [hfo] at k5 k6 k7
      rw [← HA.out] at k1 k3 k4
      rw [HR.out, hro] at k8 k9
      rw [HN.out] at k1
      dsimp only at k5 k6 k7
      obtain ⟨pn, hpn⟩ : ∃ pn, p.length = pn := ⟨_, rfl⟩
      rw [hpn] at k1 k2 k3 k4 k8 k9 hq0 hro HBR
      have HPN := Lib.hid hpn
      have K3 := Lib.hid k3
      have K4 := Lib.hid k4
      have K5 := Lib.hid k5
      have K7 := Lib.hid k7
      have K8 := Lib.hid k8
      have K9 := Lib.hid k9
      have Hp := Lib.hid hp
      have Hfo := Lib.hid hfo
      have Hro := Lib.hid hro
      have hBb : -36028797018964968 ≤ B ∧ B < 36028797018963968 := by
        have hm := k3 0 k2
        have hx0 : p[0]? = some p[0] := List.getElem?_eq_getElem (by omega)
        rw [hx0] at hm
        have h1 := k5 _ (List.mem_of_getElem? hx0)
        have h2 := (ckL_range (chC_zero HC.out).2 _ (List.mem_of_getElem? hm)).1
        unfold InR at h2
        omega
      clear k3 k4 k5 k7 k8 k9 hp hfo hro hpn
      have hdne : ((1 + (q : Int)) == 0) = false := by simp; omega
      have hmz : (B.tmod (1 + (q : Int)) != 0) = false := by rw [k6]; rfl
      have hwd : w3.heap.size + 1 ≤ wr.heap.size := by omega
      by_cases hj0 : j = 0
      · subst hj0
        simp only [Nat.zero_mul, Nat.add_zero] at hB0 hB1 hq0 hq1 hq2 hq3
        go_wp2
        refine region_two [0, 1, 2, 3, 4, 5, 6, 7, 8, 9, 10, 11, 12, 13, 14, 15, 16, 17, 18, 19, 20, 21, 22, 23, 24, 25, 26, 27, 28, 29, 30, 31, 32, 33, 34, 35, 36, 37, 38, 39, 40, 41, 42, 43, 44, 45] [] (by kernel_rfl) (by kernel_rfl) ?_
        simp only [pick, List.map_cons, List.map_nil, List.getD_cons_zero, List.getD_cons_succ]
        go_wp2
        go_loopw [15, 17] (fun at' kk wq => ∃ (i2 : Nat), i2 ≤ pn ∧ at' = .int .i64 ((a + i2 : Nat) : Int) ∧ kk = .int .i64 i2 ∧ Box wq (w3.heap.size + 1) 24 [.int .i64 sc, .int .i64 sl, .int .i64 sh, .int .i64 sz] ∧ Below (w3.heap.size + 1) w4 wq ∧ Below w.heap.size w wq) (fun _ kk _ => pn - (intOf kk).toNat)
        case atStart => exact ⟨0, Nat.zero_le _, rfl, rfl, bS, hbel.drewN 1, hAr.drewN 1⟩
        case round =>
          obtain ⟨i2, hi2, rfl, rfl, bS6, hbel6, hAr6⟩ := hrel
          clear cS0 cS1 cS2 cS3 zS0 zS1 zS2 zS3 cT0 cT1 cT2 cT3
          have hlS6 := bS6.lt
          have hS6 := hS4.below hbel6
          have hq0' := cell_same hbel hbel6 hbR hq0
          have hq1' := cell_same hbel hbel6 hbR hq1
          have hq2' := cell_same hbel hbel6 hbR hq2
          have hq3' := cell_same hbel hbel6 hbR hq3
          have hB0' := cell_same hbel hbel6 hbF hB0
          have hB1' := cell_same hbel hbel6 hbF hB1
          clear hq0 hq1 hq2 hq3 hB0 hB1 
          by_cases hlt2 : i2 < pn
          · obtain ⟨bS', oS', x, y, rfl, hbS', hcx, hcy, HX, hmem⟩ := hS6.val (show a + i2 < N by omega)
            have hpx := K3.out i2 hlt2
            rw [HX.out] at hpx
            have hx5 := K5.out _ (List.mem_of_getElem? hpx.symm)
            dsimp only at hx5
            by_cases h20 : i2 = 0
            · subst h20
              have hy7 : y = y0 := K7.out _ hpx.symm
              subst hy7
              clear hpx
              simp only [Nat.add_zero] at hcx hcy
              go_wp2
              refine region_two [0, 1, 2, 3, 4, 5, 6, 7, 8, 9, 10, 11, 12, 13, 14, 15, 16, 17, 18, 19, 20, 21, 22, 23, 24, 25, 26, 27, 28, 29, 30, 31, 32, 33, 34, 35, 36, 37, 38, 39, 40, 41, 42] [] (by kernel_rfl) (by kernel_rfl) ?_
              simp only [pick, List.map_cons, List.map_nil, List.getD_cons_zero, List.getD_cons_succ]
              go_wp2
              go_roundw
              case rel => exact ⟨1, by omega, by go_num, by go_num, bS6, hbel6.drewN 1, hAr6.drewN 1⟩
              case measure => simp [intOf]; omega
            · have h2b : ((i2 : Int) == 0) = false := by simp; omega
              clear hpx
              go_wp2
              refine region_two [0, 1, 2, 3, 4, 5, 6, 7, 8, 9, 10, 11, 12, 13, 14, 15, 16, 17, 18, 19, 20, 21, 22, 23, 24, 25, 26, 27, 28, 29, 30, 31, 32, 33, 34, 35, 36, 37, 38, 39, 40, 41, 42] [] (by kernel_rfl) (by kernel_rfl) ?_
              simp only [pick, List.map_cons, List.map_nil, List.getD_cons_zero, List.getD_cons_succ]
              go_wp2
              go_roundw
              case rel => exact ⟨i2 + 1, by omega, by go_num, by go_num, bS6, hbel6.drewN 1, hAr6.drewN 1⟩
              case measure => simp [intOf]; omega
          · obtain rfl : i2 = pn := by omega
            obtain ⟨m, hm⟩ : ∃ m, m = rollV (valS (upTo (1 + (q : Int)) S (0 + 1))) := ⟨_, rfl⟩
            have K9' := Lib.hid (hm.trans K9.out.symm)
            have HM := Lib.hid hm.symm
            clear hm
            obtain ⟨mc, ml, mh, mz⟩ := m
            obtain ⟨cS0, cS1, cS2, cS3⟩ := bS6.cells4
            go_wp2
            refine region_first [0, 1, 2, 3, 4] (.fork 5 (seq [6, 7, 8] (.cons 9 (seq [10, 11] .nil))) 9 (seq [5, 6, 7, 8, 10, 11] .nil)) (by kernel_rfl) (by kernel_rfl) ?_
            simp only [pick, List.map_cons, List.map_nil, List.getD_cons_zero, List.getD_cons_succ]
            go_wp2
            refine ord_fork (by kernel_rfl) ?_ ?_
            · simp only [pick, List.map_cons, List.map_nil, List.getD_cons_zero, List.getD_cons_succ]
              go_wp2_with fail
              refine (roll_Join ⟨sc, sl, sh, sz⟩ ⟨(i2 : Int), ql, qh, qz⟩ ⟨mc, ml, mh, mz⟩ 0 _ K9'.out K8.out.symm).mono ?_
              rintro e w6 ⟨rfl, hb6⟩
              have hx6 := ext_below hb6
              replace hb6 : Below wr.heap.size wr w6 := hb6.undrew
              have bS7 := bS6.below hb6 bS6.lt
              have hbel7 := hbel6.trans (hb6.mono (by omega))
              have hAr7 := hAr6.trans (hb6.mono hAr6.size)
              have lS7 := bS7.lt
              unfold rlV
              dsimp only
              go_wp2
              refine ord_more [6, 7, 8] _ (by kernel_rfl) ?_
              simp only [pick, List.map_cons, List.map_nil, List.getD_cons_zero, List.getD_cons_succ]
              go_wp2
              refine ord_call (by kernel_rfl) ?_
              simp only [pick, List.map_cons, List.map_nil, List.getD_cons_zero, List.getD_cons_succ]
              go_wp2
              refine ⟨ext_below ((Below.refl _ _).alloc (Nat.le_refl _) _), ?_⟩
              refine ord_last [10, 11] (by kernel_rfl) ?_
              simp only [pick, List.map_cons, List.map_nil, List.getD_cons_zero, List.getD_cons_succ]
              clear cS0 cS1 cS2 cS3
              obtain ⟨cS0, cS1, cS2, cS3⟩ := bS7.cells4
              obtain ⟨zS0, zS1, zS2, zS3⟩ := bS7.frozen4
              go_wp2
              go_roundw
              case rel =>
                refine ⟨0 + 1, a + i2, mc, ml, mh, mz, by omega, by omega, by go_num, by go_num, K4.out.symm, HM.out, (bS7.four _ _ _ _).alloc _, (below_set4 hbel7 (Nat.le_refl _) _ _ _ _).alloc (by simp; omega) _, (below_set4 hAr7 hwz _ _ _ _).alloc (by simp; omega) _⟩
              case measure => simp [intOf]; omega
            · simp only [pick, List.map_cons, List.map_nil, List.getD_cons_zero, List.getD_cons_succ]
              have hb5 := (Below.refl wr.heap.size wr).alloc (Nat.le_refl _) (Obj.cells (rlC rl0).toArray 24)
              go_wp2
              refine ⟨ext_below ((Below.refl _ _).alloc (Nat.le_refl _) _), ?_⟩
              refine ord_last [5, 6, 7, 8, 10, 11] (by kernel_rfl) ?_
              simp only [pick, List.map_cons, List.map_nil, List.getD_cons_zero, List.getD_cons_succ]
              go_wp2_with fail
              refine (roll_Join ⟨sc, sl, sh, sz⟩ ⟨(i2 : Int), ql, qh, qz⟩ ⟨mc, ml, mh, mz⟩ 0 _ K9'.out K8.out.symm).mono ?_
              rintro e w6 ⟨rfl, hb6⟩
              have bN7 := (Box.newAt wr.drew 24 (rlC rl0) wr.heap.size rfl).below hb6 (by simp)
              replace hb6 : Below wr.heap.size wr w6 := (((Below.refl wr.heap.size wr).drewN 1).alloc (Nat.le_refl _) _).trans (hb6.mono (by simp))
              have bS7 := bS6.below hb6 bS6.lt
              have hbel7 := hbel6.trans (hb6.mono (by omega))
              have hAr7 := hAr6.trans (hb6.mono hAr6.size)
              have lS7 := bS7.lt
              have lN7 := bN7.lt
              clear cS0 cS1 cS2 cS3
              obtain ⟨cS0, cS1, cS2, cS3⟩ := bS7.cells4
              obtain ⟨zS0, zS1, zS2, zS3⟩ := bS7.frozen4
              obtain ⟨cN0, cN1, cN2, cN3⟩ := bN7.cells4
              obtain ⟨zN0, zN1, zN2, zN3⟩ := bN7.frozen4
              unfold rlV
              dsimp only
              go_wp2
              go_roundw
              case rel =>
                refine ⟨0 + 1, a + i2, mc, ml, mh, mz, by omega, by omega, by go_num, by go_num, K4.out.symm, HM.out, ((((bS7.other 0 _ (by omega)).other 1 _ (by omega)).other 2 _ (by omega)).other 3 _ (by omega)).four _ _ _ _, below_set4 (below_set4 hbel7 (by omega) _ _ _ _) (Nat.le_refl _) _ _ _ _, below_set4 (below_set4 hAr7 (by omega) _ _ _ _) hwz _ _ _ _⟩
              case measure => simp [intOf]; omega
      · obtain ⟨j', rfl⟩ : ∃ j', j = j' + 1 := ⟨j - 1, by omega⟩
        obtain ⟨bF', oF', B', y', hAA, hbF', hB0', hB1', HBF', _⟩ := f5.val (show j' < k by omega)
        injection hAA with hAA
        injection hAA with hAA1 hAA2
        subst hAA1 hAA2
        obtain ⟨p', hp', hfo'⟩ := bkF_at HBF'.out
        have hgr := bk_grows _ hd1 S (chC_zero HC.out).2 j' p' p hp' Hp.out
        rw [hfo', Hfo.out] at hgr
        dsimp only at hgr
        clear hp' hfo'
        have hji : ((j' + 1 : Nat) : Int) - 1 = (j' : Int) := by omega
        go_wp2
        refine region_two [0, 1, 2, 3, 4, 5, 6, 7, 8, 9, 10, 11, 12, 13, 14, 15, 16, 17, 18, 19, 20, 21, 22, 23, 24, 25, 26, 27, 28, 29, 30, 31, 32, 33, 34, 35, 36, 37, 38, 39, 40, 41, 42, 43, 44, 45] [] (by kernel_rfl) (by kernel_rfl) ?_
        simp only [pick, List.map_cons, List.map_nil, List.getD_cons_zero, List.getD_cons_succ]
        go_wp2
        go_loopw [15, 17] (fun at' kk wq => ∃ (i2 : Nat), i2 ≤ pn ∧ at' = .int .i64 ((a + i2 : Nat) : Int) ∧ kk = .int .i64 i2 ∧ Box wq (w3.heap.size + 1) 24 [.int .i64 sc, .int .i64 sl, .int .i64 sh, .int .i64 sz] ∧ Below (w3.heap.size + 1) w4 wq ∧ Below w.heap.size w wq) (fun _ kk _ => pn - (intOf kk).toNat)
        case atStart => exact ⟨0, Nat.zero_le _, rfl, rfl, bS, hbel.drewN 1, hAr.drewN 1⟩
        case round =>
          obtain ⟨i2, hi2, rfl, rfl, bS6, hbel6, hAr6⟩ := hrel
          clear cS0 cS1 cS2 cS3 zS0 zS1 zS2 zS3 cT0 cT1 cT2 cT3
          have hlS6 := bS6.lt
          have hS6 := hS4.below hbel6
          have hq0' := cell_same hbel hbel6 hbR hq0
          have hq1' := cell_same hbel hbel6 hbR hq1
          have hq2' := cell_same hbel hbel6 hbR hq2
          have hq3' := cell_same hbel hbel6 hbR hq3
          have hB0' := cell_same hbel hbel6 hbF hB0
          have hB1' := cell_same hbel hbel6 hbF hB1
          clear hq0 hq1 hq2 hq3 hB0 hB1 
          by_cases hlt2 : i2 < pn
          · obtain ⟨bS', oS', x, y, rfl, hbS', hcx, hcy, HX, hmem⟩ := hS6.val (show a + i2 < N by omega)
            have hpx := K3.out i2 hlt2
            rw [HX.out] at hpx
            have hx5 := K5.out _ (List.mem_of_getElem? hpx.symm)
            dsimp only at hx5
            by_cases h20 : i2 = 0
            · subst h20
              have hy7 : y = y0 := K7.out _ hpx.symm
              subst hy7
              clear hpx
              simp only [Nat.add_zero] at hcx hcy
              go_wp2
              refine region_two [0, 1, 2, 3, 4, 5, 6, 7, 8, 9, 10, 11, 12, 13, 14, 15, 16, 17, 18, 19, 20, 21, 22, 23, 24, 25, 26, 27, 28, 29, 30, 31, 32, 33, 34, 35, 36, 37, 38, 39, 40, 41, 42] [] (by kernel_rfl) (by kernel_rfl) ?_
              simp only [pick, List.map_cons, List.map_nil, List.getD_cons_zero, List.getD_cons_succ]
              go_wp2
              go_roundw
              case rel => exact ⟨1, by omega, by go_num, by go_num, bS6, hbel6.drewN 1, hAr6.drewN 1⟩
              case measure => simp [intOf]; omega
            · have h2b : ((i2 : Int) == 0) = false := by simp; omega
              clear hpx
              go_wp2
              refine region_two [0, 1, 2, 3, 4, 5, 6, 7, 8, 9, 10, 11, 12, 13, 14, 15, 16, 17, 18, 19, 20, 21, 22, 23, 24, 25, 26, 27, 28, 29, 30, 31, 32, 33, 34, 35, 36, 37, 38, 39, 40, 41, 42] [] (by kernel_rfl) (by kernel_rfl) ?_
              simp only [pick, List.map_cons, List.map_nil, List.getD_cons_zero, List.getD_cons_succ]
              go_wp2
              go_roundw
              case rel => exact ⟨i2 + 1, by omega, by go_num, by go_num, bS6, hbel6.drewN 1, hAr6.drewN 1⟩
              case measure => simp [intOf]; omega
          · obtain rfl : i2 = pn := by omega
            obtain ⟨m, hm⟩ : ∃ m, m = rollV (valS (upTo (1 + (q : Int)) S ((j' + 1) + 1))) := ⟨_, rfl⟩
            have K9' := Lib.hid (hm.trans K9.out.symm)
            have HM := Lib.hid hm.symm
            clear hm
            obtain ⟨mc, ml, mh, mz⟩ := m
            obtain ⟨cS0, cS1, cS2, cS3⟩ := bS6.cells4
            go_wp2
            refine region_first [0, 1, 2, 3, 4] (.fork 5 (seq [6, 7, 8] (.cons 9 (seq [10, 11] .nil))) 9 (seq [5, 6, 7, 8, 10, 11] .nil)) (by kernel_rfl) (by kernel_rfl) ?_
            simp only [pick, List.map_cons, List.map_nil, List.getD_cons_zero, List.getD_cons_succ]
            go_wp2
            refine ord_fork (by kernel_rfl) ?_ ?_
            · simp only [pick, List.map_cons, List.map_nil, List.getD_cons_zero, List.getD_cons_succ]
              go_wp2_with fail
              refine (roll_Join ⟨sc, sl, sh, sz⟩ ⟨(i2 : Int), ql, qh, qz⟩ ⟨mc, ml, mh, mz⟩ 0 _ K9'.out K8.out.symm).mono ?_
              rintro e w6 ⟨rfl, hb6⟩
              have hx6 := ext_below hb6
              replace hb6 : Below wr.heap.size wr w6 := hb6.undrew
              have bS7 := bS6.below hb6 bS6.lt
              have hbel7 := hbel6.trans (hb6.mono (by omega))
              have hAr7 := hAr6.trans (hb6.mono hAr6.size)
              have lS7 := bS7.lt
              unfold rlV
              dsimp only
              go_wp2
              refine ord_more [6, 7, 8] _ (by kernel_rfl) ?_
              simp only [pick, List.map_cons, List.map_nil, List.getD_cons_zero, List.getD_cons_succ]
              go_wp2
              refine ord_call (by kernel_rfl) ?_
              simp only [pick, List.map_cons, List.map_nil, List.getD_cons_zero, List.getD_cons_succ]
              go_wp2
              refine ⟨ext_below ((Below.refl _ _).alloc (Nat.le_refl _) _), ?_⟩
              refine ord_last [10, 11] (by kernel_rfl) ?_
              simp only [pick, List.map_cons, List.map_nil, List.getD_cons_zero, List.getD_cons_succ]
              clear cS0 cS1 cS2 cS3
              obtain ⟨cS0, cS1, cS2, cS3⟩ := bS7.cells4
              obtain ⟨zS0, zS1, zS2, zS3⟩ := bS7.frozen4
              go_wp2
              go_roundw
              case rel =>
                refine ⟨(j' + 1) + 1, a + i2, mc, ml, mh, mz, by omega, by omega, by go_num, by go_num, K4.out.symm, HM.out, (bS7.four _ _ _ _).alloc _, (below_set4 hbel7 (Nat.le_refl _) _ _ _ _).alloc (by simp; omega) _, (below_set4 hAr7 hwz _ _ _ _).alloc (by simp; omega) _⟩
              case measure => simp [intOf]; omega
            · simp only [pick, List.map_cons, List.map_nil, List.getD_cons_zero, List.getD_cons_succ]
              have hb5 := (Below.refl wr.heap.size wr).alloc (Nat.le_refl _) (Obj.cells (rlC rl0).toArray 24)
              go_wp2
              refine ⟨ext_below ((Below.refl _ _).alloc (Nat.le_refl _) _), ?_⟩
              refine ord_last [5, 6, 7, 8, 10, 11] (by kernel_rfl) ?_
              simp only [pick, List.map_cons, List.map_nil, List.getD_cons_zero, List.getD_cons_succ]
              go_wp2_with fail
              refine (roll_Join ⟨sc, sl, sh, sz⟩ ⟨(i2 : Int), ql, qh, qz⟩ ⟨mc, ml, mh, mz⟩ 0 _ K9'.out K8.out.symm).mono ?_
              rintro e w6 ⟨rfl, hb6⟩
              have bN7 := (Box.newAt wr.drew 24 (rlC rl0) wr.heap.size rfl).below hb6 (by simp)
              replace hb6 : Below wr.heap.size wr w6 := (((Below.refl wr.heap.size wr).drewN 1).alloc (Nat.le_refl _) _).trans (hb6.mono (by simp))
              have bS7 := bS6.below hb6 bS6.lt
              have hbel7 := hbel6.trans (hb6.mono (by omega))
              have hAr7 := hAr6.trans (hb6.mono hAr6.size)
              have lS7 := bS7.lt
              have lN7 := bN7.lt
              clear cS0 cS1 cS2 cS3
              obtain ⟨cS0, cS1, cS2, cS3⟩ := bS7.cells4
              obtain ⟨zS0, zS1, zS2, zS3⟩ := bS7.frozen4
              obtain ⟨cN0, cN1, cN2, cN3⟩ := bN7.cells4
              obtain ⟨zN0, zN1, zN2, zN3⟩ := bN7.frozen4
              unfold rlV
              dsimp only
              go_wp2
              go_roundw
              case rel =>
                refine ⟨(j' + 1) + 1, a + i2, mc, ml, mh, mz, by omega, by omega, by go_num, by go_num, K4.out.symm, HM.out, ((((bS7.other 0 _ (by omega)).other 1 _ (by omega)).other 2 _ (by omega)).other 3 _ (by omega)).four _ _ _ _, below_set4 (below_set4 hbel7 (by omega) _ _ _ _) (Nat.le_refl _) _ _ _ _, below_set4 (below_set4 hAr7 (by omega) _ _ _ _) hwz _ _ _ _⟩
              case measure => simp [intOf]; omega
    · obtain rfl : j = k := by omega
      have hup := upTo_all (d := 1 + (q : Int)) (S := S) (j := j) (by rw [HK.out]; omega)
      have haa : a = N := by rw [HA.out, hup, HN.out]
      subst haa
      have hrr := HR.out
      rw [hup, Hr.out] at hrr
      injection hrr with e1 e2 e3 e4
      subst e1 e2 e3 e4
      clear hup
      go_wp2_with fail
      refine (roll_Buckets [(-1, 0)] _ _ _ 10 _ (hT.below (hAr.alloc hAr.size _) lT) (RF_lit1 _ _ (-1) 0 _ rfl) (by omega)).mono ?_
      rintro e w6 ⟨v6, v7, rfl, hF6, hR6, hb6⟩
      rw [bk_one.1]
      rw [bk_one.2.1, bk_one.2.2] at hF6
      obtain ⟨g6, c6, rfl, hg6, hg6', _⟩ := own_some hF6 (by omega)
      have hc6 : w6.cell? ⟨g6, 0, none⟩ = some (.int .i64 (-10)) := hF6.cellAt 0 (by omega)
      have bS6 := (bS.alloc _).below hb6 (bS.alloc _).lt
      have bT6 := (bT5.alloc _).below hb6 (bT5.alloc _).lt
      have hA6 := (hAr.alloc hAr.size _).trans (hb6.mono (hAr.alloc hAr.size _).size)
      clear cS0 cS1 cS2 cS3 zS0 zS1 zS2 zS3 cT0 cT1 cT2 cT3
      obtain ⟨cS0, cS1, cS2, cS3⟩ := bS6.cells4
      obtain ⟨cT0, cT1, cT2, cT3⟩ := bT6.cells4
      go_wp2
      go_ret
      exact ⟨ret_bool (by simp), hA6⟩

theorem own_BucketsAll : ownKnob Tryd.prog.godebug = none := by kernel_rfl
theorem laid_BucketsAll : laidOutB Tryd.prog = true := by kernel_rfl
set_option maxRecDepth 100000 in
theorem lifted_BucketsAll (os : Os) (started : os.Started) (H : Type) (enc : TypeId × Value → H) :
    ReturnsInHanded {} Tryd.checked os 7 .any (fun w args => (Rows.bucketsAllSpec.pre enc Tryd.prog Tryd.f7 [] false w args ∧ laidMetH Tryd.prog laidL w) ∧ sizedMet enc Tryd.prog Tryd.f7 (OpenSpec.ofChange Rows.bucketsAllSpec) false w args)
      (Rows.bucketsAllSpec.post enc Tryd.prog Tryd.f7 false true false false) := by
  refine returnsInHanded_of_change_and (C := Tryd.checked) (X := fun w _ => laidMetH Tryd.prog laidL w) (fun _ _ _ hh h => h.of_heap hh) own_BucketsAll started (by kernel_rfl) Tryd.func7
    (ChangeSpec.witness_shaped (enc := enc) (C := Tryd.checked) (os := os) (X := fun w _ => laidMetH Tryd.prog laidL w) false (World.doorLaid Tryd.prog 400 os) #[.slice none 0 0, .int .i64 0, .int .i64 0] 8 rfl (World.shaped_of_RefB (by kernel_rfl) (by kernel_rfl)) (by kernel_rfl) (by kernel_rfl) (by kernel_rfl) (door_met os _)) ?_
  intro W base args ds gs before hval0 hW hcnd hsz0 hL _
  have hsz : (DataW.weightsEach Tryd.prog (Tryd.f7.params.toList ++ Rows.bucketsAllSpec.plain.varTypes Tryd.prog) (ds ++ gs)).all (· ≤ reachBytes) = true := hsz0
  clear hsz0
  have hval : ∀ (j : Nat) t v, Tryd.f7.params[j]? = some t → args[j]? = some v → Value.okWide Tryd.prog W .any base t v := hval0
  have hW' := hW
  obtain ⟨p, q, hA0, hV, rfl, hfz, hnd⟩ := hW
  have hA : DataW.TrodAll enc Tryd.prog W 0 (fun _ => true) true Tryd.f7.params.toList args.toList ds p := hA0
  rw [Tryd.params7] at hA hval hsz
  obtain ⟨v0, vs0, d0, ds0, p0, q0, hargs, rfl, rfl, h0, r0⟩ := trodAll_cons hA
  obtain ⟨v1, vs1, d1, ds1, p1, q1, rfl, rfl, rfl, h1, r1⟩ := trodAll_cons r0
  obtain ⟨v2, vs2, d2, ds2, p2, q2, rfl, rfl, rfl, h2, r2⟩ := trodAll_cons r1
  obtain ⟨rfl, rfl, rfl⟩ := trodAll_nil r2
  obtain rfl : args = #[v0, v1, v2] := by cases args; simp_all
  obtain ⟨rfl, rfl⟩ := trodVars_none hV
  have k0 := h0
  have lt0 : ∀ x ∈ p0, x.block < W.heap.size := by obtain ⟨m, hm⟩ := k0; exact DataW.trod_lt m _ _ _ hm
  obtain ⟨a0, len0, cap0, rfl⟩ := okWide_slice Tryd.underlying34 (hval 0 34 v0 rfl rfl)
  obtain ⟨x0, ri0, rr0, lc0, hd0⟩ := open_RD Tryd.underlying34 Tryd.underlying55 (by kernel_rfl) Tryd.underlying3 (by kernel_rfl) Tryd.underlying4 (by kernel_rfl) (by kernel_rfl) h0
  have bd0 : len0 ≤ 5864062014805 := by
    rcases hd0 with ⟨h, _⟩ | ⟨el, sp, hd, hl⟩
    · omega
    · subst hd
      have := sized_slice hsz (j := 0) (t := 34) (e := 55) rfl rfl Tryd.underlying34
      rw [show Tryd.prog.bytesOf 55 = 24 by kernel_rfl] at this
      simp only [reachBytes] at this
      omega
  have k1 := h1
  have lt1 : ∀ x ∈ p1, x.block < W.heap.size := by obtain ⟨m, hm⟩ := k1; exact DataW.trod_lt m _ _ _ hm
  obtain ⟨x1, rfl, rfl, rfl, wx1⟩ := open_int Tryd.underlying3 (hval 1 3 v1 rfl rfl) h1
  have rr1 := bounds_i64 wx1
  have k2 := h2
  have lt2 : ∀ x ∈ p2, x.block < W.heap.size := by obtain ⟨m, hm⟩ := k2; exact DataW.trod_lt m _ _ _ hm
  obtain ⟨x2, rfl, rfl, rfl, wx2⟩ := open_int Tryd.underlying3 (hval 2 3 v2 rfl rfl) h2
  have rr2 := bounds_i64 wx2
  clear hA0 hval0 hsz
  refine (keep_BucketsAll W (of_laid hL) a0 len0 cap0 x0 ri0 bd0 rr0 lc0 x1 rr1 x2 rr2).mono fun e W' ⟨he, bel⟩ => ?_
  subst he
  exact ⟨_, rfl, _, _, _, [], _, [], hW', trodAll_mk1 (shut_bool Tryd.underlying4 _), (trodAll_cons_mk (Below.trod laid_BucketsAll (by kernel_rfl) (of_decide_eq_true (by kernel_rfl)) k0 bel lt0) (trodAll_cons_mk (Below.trod laid_BucketsAll (by kernel_rfl) (of_decide_eq_true (by kernel_rfl)) k1 bel lt1) (trodAll_cons_mk (Below.trod laid_BucketsAll (by kernel_rfl) (of_decide_eq_true (by kernel_rfl)) k2 bel lt2) trodAll_mk0))), rfl, bel.frame _, fun h => by cases h⟩

theorem bucketsAll_holds : Rows.BucketsAllSaid :=
  OpenClaim.holds_of_wide 7 Tryd.f7 rfl rfl rfl rfl rfl rfl rfl ⟨rfl, rfl, rfl, rfl, rfl⟩ rfl rfl rfl rfl rfl (by kernel_rfl) Tryd.func7 (by kernel_rfl)
    (of_decide_eq_true (by kernel_rfl)) (by unfold Func.isWrapper; first | (rw [if_pos (by decide +kernel)]; kernel_rfl) | (rw [if_neg (by decide +kernel)]; exact ⟨rfl, rfl⟩))
    (fun os started H enc _ => lifted_BucketsAll os started H enc)

theorem bucketsAll_card : Rows.BucketsAllCardSaid :=
  Claim7.holds_tied_plain_at .later [] [.data] true (true, "916d3032eb380c977195be34e2d04779bbe8d94be5391d87ea0a9ae7f4c67b21") false
    bucketsAll_holds (fun _ h => by cases h) (by kernel_rfl) (fun _ h => by cases h) bucketsAll_row_tie rfl ⟨rfl, rfl⟩ (by kernel_rfl) rfl
    (fun f fn hf hfn => by
      obtain rfl : f = 7 := Option.some.inj ((show Tryd.prog.funcNamed "barograph/barographkeep.BucketsAll" = some 7 by kernel_rfl).symm.trans hf) |>.symm
      obtain rfl : fn = Tryd.f7 := (Option.some.inj (Tryd.func7.symm.trans hfn)).symm
      exact ⟨by kernel_rfl, fun j t ht => by
        rw [Tryd.params7] at ht
        have hm : t ∈ [34, 3, 3] := by simpa using Array.mem_of_getElem? ht
        have hall : ([34, 3, 3].all fun u => !Tryd.prog.wantsStandIn u) = true := by kernel_rfl
        exact (show Tryd.prog.wantsStandIn t = false by simpa using List.all_eq_true.1 hall t hm)⟩)
    (by kernel_rfl)
#print axioms bucketsAll_card
end Go.Proofs.YtnpabbinckcbaaaDoor
