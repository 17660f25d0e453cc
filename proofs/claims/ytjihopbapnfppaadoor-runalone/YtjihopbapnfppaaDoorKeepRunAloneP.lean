/- The walk of RunAlone, from what is asked of run.Play. No statement of the seat is proved here. -/
import Derived.Test.YtjihopbapnfppaaDoorKeepRunPartsP
import Derived.Test.YtjihopbapnfppaaDoorRunPure5
import Derived.Test.YtjihopbapnfppaaDoorVm7
set_option linter.unusedSimpArgs false
set_option linter.unusedVariables false
namespace Go.Proofs.YtjihopbapnfppaaDoor
open Go.RowKit Go.Ord Go.Baro

set_option maxRecDepth 100000 in
set_option maxHeartbeats 2000000 in
theorem keep_RunAloneP (hP : PlaySpec) (w : World) (hT : Tab w) (A0 : Option Addr) (n0 c0 : Nat) (x0 : List Ins) (h0 : RO w w.heap.size A0 n0 x0) (b0 : n0 ≤ 3518437208883) (r0 : ∀ f ∈ x0, inI f) (_ : n0 ≤ c0)
    (A1 : Option Addr) (n1 c1 : Nat) (x1 : List Ins) (h1 : RO w w.heap.size A1 n1 x1) (b1 : n1 ≤ 3518437208883) (r1 : ∀ f ∈ x1, inI f) (_ : n1 ≤ c1)
    (A2 : Option Addr) (n2 c2 : Nat) (x2 : List Int) (h2 : RI w w.heap.size .i64 A2 n2 x2) (b2 : n2 ≤ 17592186044416) (r2 : ∀ x ∈ x2, -9223372036854775808 ≤ x ∧ x ≤ 9223372036854775807) (_ : n2 ≤ c2) :
    Calls Tryd.prog 12 #[.slice A0 n0 c0, .slice A1 n1 c1, .slice A2 n2 c2] w fun e w' => e = .returned (.bool true) ∧ Below w.heap.size w w' := by
  have HP := Lib.hid hP
  have HT := Lib.hid hT
  have H2 := Lib.hid (show ∀ x ∈ x2, inW x from r2)
  clear hP hT r0 r1 r2
  go_enter Tryd.func12, Tryd.ntmps12
  go_wp2_with fail
  refine (keep_MachineOf w A0 A1 A2 n0 c0 n1 c1 n2 c2 x0 x1 x2 h0 b0 h1 b1 h2 b2 H2.out).mono ?_
  rintro e w1 ⟨tg, gw, gc, g6, v0, v1, ts, rfl, hMo, hb1⟩
  have hs1 := hb1.size
  have hB6 := hMo.B6
  have l6 := hMo.thr.lt
  have HMo0 := Lib.hid hMo
  clear hMo h0 h1 h2
  have ys : ∀ q, q < 3 → ∃ A n c, w1.cell? ⟨g6, q, none⟩ = some (.slice A n c) := fun q hq3 => by
    obtain ⟨rowsq, _, _, r3q, _⟩ := HMo0.out.row q hq3
    obtain ⟨Aq, cq, hts, _⟩ := own_form r3q
    have := HMo0.out.thr.cell q
    rw [three_at ts hq3, hts] at this
    exact ⟨_, _, _, this⟩
  obtain ⟨Aq1, nq1, cq1, y61⟩ := ys 1 (by omega)
  obtain ⟨Aq2, nq2, cq2, y62⟩ := ys 2 (by omega)
  have f61 := HMo0.out.thr.frozen 1
  have f62 := HMo0.out.thr.frozen 2
  have hun6 : Un (fun k => k = g6) w1 ((w1.setCell ⟨g6, 1, none⟩ (.slice none 0 0)).setCell ⟨g6, 2, none⟩ (.slice none 0 0)) := un_at (X := fun k => k = g6) (un_at (X := fun k => k = g6) (Un.refl _ _) rfl _ _) rfl _ _
  have hbA := hb1.trans (hun6.below (B := w.heap.size) (by omega) (fun k hk h => by omega))
  have hA1 := (Below.refl w1.heap.size ((w1.setCell ⟨g6, 1, none⟩ (.slice none 0 0)).setCell ⟨g6, 2, none⟩ (.slice none 0 0))).alloc (by simp) (Obj.cells #[.slice (some ⟨gw, 0, none⟩) 8 8, .slice (some ⟨gc, 0, none⟩) 2 2, .slice (some ⟨g6, 0, none⟩) 3 3] 45)
  have bX := Box.newAt ((w1.setCell ⟨g6, 1, none⟩ (.slice none 0 0)).setCell ⟨g6, 2, none⟩ (.slice none 0 0)) 45 [.slice (some ⟨gw, 0, none⟩) 8 8, .slice (some ⟨gc, 0, none⟩) 2 2, .slice (some ⟨g6, 0, none⟩) 3 3] w1.heap.size (by simp)
  have hbB := hbA.trans (hA1.mono hs1)
  have HMo := Lib.hid (((HMo0.out.clear (q := 1) (by omega)).clear (q := 2) (by omega)).below ((Below.refl _ _).alloc (Nat.le_refl _) (Obj.cells #[.slice (some ⟨gw, 0, none⟩) 8 8, .slice (some ⟨gc, 0, none⟩) 2 2, .slice (some ⟨g6, 0, none⟩) 3 3] 45)))
  obtain ⟨T, hTT⟩ : ∃ T : Nat → List Cl, T = (fun i => if i = 2 then [] else (fun i => if i = 1 then [] else thL x2 i) i) := ⟨_, rfl⟩
  rw [← hTT] at HMo
  have hTok : ∀ i, i < 3 → okDs (T i) := fun i _ => by
    rw [hTT]
    dsimp only
    split
    · exact nil_ok
    · split
      · exact nil_ok
      · exact thL_ok x2 i
  have hT0 : T 0 = thL x2 0 := by rw [hTT]; rfl
  obtain ⟨M, hM⟩ : ∃ M, M = mD x0 x1 T := ⟨_, rfl⟩
  obtain ⟨S, hS⟩ : ∃ S : List Int, S = List.replicate 4000 0 := ⟨_, rfl⟩
  obtain ⟨T1, hT1⟩ : ∃ T1, T1 = (plyG M 0 (List.replicate 4000 0) (g0 M)).out := ⟨_, rfl⟩
  obtain ⟨W1, hW1⟩ : ∃ W1, W1 = (plyG M 0 (List.replicate 4000 0) (g0 M)).w := ⟨_, rfl⟩
  have hSm : S.map Int.toNat = List.replicate 4000 0 := by rw [hS, List.map_replicate]; rfl
  have hR1 : PlR M S T1 W1 0 := by
    have := plR_good (x0 := x0) (x1 := x1) (s := S) hTok (by rw [hS, List.length_replicate]; omega) (fun x hx => by rw [hS] at hx; rw [(List.mem_replicate.1 hx).2]; omega)
    rw [← hM, hSm, ← hT1, ← hW1] at this
    exact this
  have HR1 := Lib.hid hR1
  have HT1 := Lib.hid hT1
  have HW1 := Lib.hid hW1
  have HM := Lib.hid hM
  have HT0 := Lib.hid hT0
  have HTok := Lib.hid hTok
  have HS := Lib.hid hS
  clear hR1 hT1 hW1 hM hT0 hTok hS hSm hTT HMo0 hun6 ys
  have hMade : (madeCells (Value.int .i64 0).cells (4000 * 1)).toList = S.map (Value.int .i64) := by rw [madeCells_one _ rfl, HS.out, List.map_replicate]
  have HMade := Lib.hid hMade
  clear hMade
  go_wp2_with (at_make; refine make_all eltIntS _ rfl _ _ rfl (w1.heap.size + 1) _ _ _ _ 4000 rfl rfl rfl rfl (by omega) (by omega) (by simp) ?_; intro w2 hown2 hbel2 hsz2 hgr2; have hb2 := hbel2 _ (Below.refl _ _); have bX2 := bX.below hb2 (by omega); have y0 : w2.cell? ⟨w1.heap.size, 0, none⟩ = some (.slice (some ⟨gw, 0, none⟩) 8 8) := bX2.cell 0; have y1 : w2.cell? ⟨w1.heap.size, 1, none⟩ = some (.slice (some ⟨gc, 0, none⟩) 2 2) := bX2.cell 1; have y2 : w2.cell? ⟨w1.heap.size, 2, none⟩ = some (.slice (some ⟨g6, 0, none⟩) 3 3) := bX2.cell 2; have lX2 := bX2.lt)
  rw [HMade.out, show (((w1.setCell ⟨g6, 1, none⟩ (.slice none 0 0)).setCell ⟨g6, 2, none⟩ (.slice none 0 0)).alloc (Obj.cells #[.slice (some ⟨gw, 0, none⟩) 8 8, .slice (some ⟨gc, 0, none⟩) 2 2, .slice (some ⟨g6, 0, none⟩) 3 3] 45)).heap.size = w1.heap.size + 1 by simp] at hown2
  have hbC := hbB.trans (hbel2 _ (Below.refl _ _) |>.mono (by omega))
  have hrS : RI w2 w2.heap.size .i64 (some ⟨w1.heap.size + 1, 0, none⟩) 4000 S := Rd.of_own hown2
  have HMo2 := Lib.hid (HMo.out.below (by have := hbel2 _ (Below.refl _ _); rw [World.size_alloc]; simpa using this))
  clear hown2 hbel2 hgr2 HMo bX
  refine (HP.out w2 (HT.out.below hbC HT.out.lt) _ 8 8 _ 2 2 _ 3 3 M _ 4000 4000 S T1 W1 0 (by rw [HM.out]; exact HMo2.out.inM HTok.out) hrS (by omega) HR1.out).mono ?_
  rintro e w3 ⟨B3, m3, d3, B4, m4, d4, rfl, hr3, hr4, hl3, hl4, hm3, hm4, hb3⟩
  have hbD := hbC.trans (hb3.mono hbC.size)
  have bX3 := bX2.below hb3 lX2
  have lX3 := bX3.lt
  have HMo3 := Lib.hid (HMo2.out.below hb3)
  clear hrS bX2 HMo2 y0 y1 y2
  go_wp2_with fail
  refine (keep_runSure HP.out w3 (HT.out.below hbD HT.out.lt)).mono ?_
  rintro e w4 ⟨rfl, hb4⟩
  have hbE := hbD.trans (hb4.mono hbD.size)
  have bX4 := bX3.below hb4 lX3
  have lX4 := bX4.lt
  have HMo4 := Lib.hid (HMo3.out.below hb4)
  have hX4 := (hr3.below hb4).more hb4.size
  have hW4 := (hr4.below hb4).more hb4.size
  have y0 : w4.cell? ⟨w1.heap.size, 0, none⟩ = some (.slice (some ⟨gw, 0, none⟩) 8 8) := bX4.cell 0
  have y1 : w4.cell? ⟨w1.heap.size, 1, none⟩ = some (.slice (some ⟨gc, 0, none⟩) 2 2) := bX4.cell 1
  have y2 : w4.cell? ⟨w1.heap.size, 2, none⟩ = some (.slice (some ⟨g6, 0, none⟩) 3 3) := bX4.cell 2
  have hwd : RI w4 w4.heap.size .i64 (some ⟨gw, 0, none⟩) 8 (g0 M).w := by
    have := (HMo4.out.inM HTok.out).ws
    rw [← HM.out] at this
    exact this
  clear hr3 hr4 bX3 HMo3
  go_wp2_with (at_builtin; go_must (refine app_src eltIntS w4 rfl _ _ rfl w4.heap.size _ 0 [] rfl (World.ownsRow_nil _ _ _ _) (some ⟨gw, 0, none⟩) 8 _ ((g0 M).w.map (Value.int .i64)) rfl w4.heap.size hwd (one_ints _ _) (by omega) (by omega) (Nat.le_refl _) ?_); intro v5 w5 hv5 hg5 hbel5 hsz5; have hb5 : Below w4.heap.size w4 w5 := hbel5 w4 (Below.refl _ _); rw [List.nil_append, Nat.zero_add] at hv5; obtain ⟨A5, c5, rfl, hlc5⟩ := own_form hv5)
  have hbF := hbE.trans (hb5.mono hbE.size)
  have bX5 := bX4.below hb5 lX4
  have lX5 := bX5.lt
  have HMo5 := Lib.hid (HMo4.out.below hb5)
  have hX5 := (hX4.below hb5).more hb5.size
  have hW5 := (hW4.below hb5).more hb5.size
  have hn5 : RI w5 w5.heap.size .i64 A5 8 (g0 M).w := Rd.of_own hv5
  have LT1 := Lib.hid hX5.len
  have LW1 := Lib.hid hW5.len
  obtain ⟨nt, hnt⟩ : ∃ nt, nt = (thL x2 0).length := ⟨_, rfl⟩
  have hnt12 : nt ≤ 12 := by rw [hnt]; exact (thL_ok x2 0).1
  have HNT := Lib.hid hnt
  have hMok : okMc M := by rw [HM.out]; exact mD_ok HTok.out
  have HMok := Lib.hid hMok
  clear hv5 hg5 hbel5 y0 y1 y2 hwd hX4 hW4 bX4 HMo4 hnt hMok
  go_loopw [12, 13, 14, 15] (fun nv at' lf i wr => ∃ (j L a : Nat) (g : Gs) (An : Option Addr) (cn : Nat), j ≤ nt ∧ Hid (a = 2 * j) ∧ L ≤ 4000 ∧ i = .int .i64 j ∧ at' = .int .i64 a ∧ lf = .int .i64 L ∧ nv = .slice An 8 cn ∧ Hid (RI wr wr.heap.size .i64 An 8 g.w) ∧ Hid (At M j (4000 - L) g) ∧ Below w5.heap.size w5 wr) (fun _ _ _ i _ => nt - (intOf i).toNat)
  case atStart => exact ⟨0, 4000, 0, g0 M, A5, c5, Nat.zero_le _, rfl, Nat.le_refl _, rfl, rfl, rfl, rfl, hn5, At.init M, Below.refl _ _⟩
  case round =>
    obtain ⟨j, L, a, g, An, cn, hj, HA, hL, rfl, rfl, rfl, rfl, HRn, HAt, hbel⟩ := hrel
    have hszr := hbel.size
    have ha24 : a ≤ 24 := by have := HA.out; omega
    have hMr := HMo5.out.below hbel
    have bXr := bX5.below hbel lX5
    have z0 : wr.cell? ⟨w1.heap.size, 0, none⟩ = some (.slice (some ⟨gw, 0, none⟩) 8 8) := bXr.cell 0
    have z1 : wr.cell? ⟨w1.heap.size, 1, none⟩ = some (.slice (some ⟨gc, 0, none⟩) 2 2) := bXr.cell 1
    have z2 : wr.cell? ⟨w1.heap.size, 2, none⟩ = some (.slice (some ⟨g6, 0, none⟩) 3 3) := bXr.cell 2
    have lXr := bXr.lt
    obtain ⟨Ac0, cc0, hts0, hlc0, hRL⟩ := (hMr.row 0 (by omega)).post
    rw [HT0.out, ← HNT.out] at hts0 hRL
    have c6 : wr.cell? ⟨g6, 0, none⟩ = some (.slice Ac0 nt cc0) := by
      have := hMr.thr.cell 0
      rw [List.getElem?_cons_zero, hts0] at this
      exact this
    have l6r := hMr.thr.lt
    have hInM : InM wr (some ⟨gw, 0, none⟩) 8 8 (some ⟨gc, 0, none⟩) 2 2 (some ⟨g6, 0, none⟩) 3 3 M := by rw [HM.out]; exact hMr.inM HTok.out
    have hMts : M.ts[0]?.getD [] = thL x2 0 := by rw [HM.out, ← HT0.out]; rfl
    have HMts := Lib.hid hMts
    have HIn := Lib.hid hInM
    have hXr := (hX5.below hbel).more hszr
    have hWr := (hW5.below hbel).more hszr
    have HGok : Hid (GOk M (4000 - L) g) := by
      show GOk _ _ _
      rw [HAt.out.g_]
      refine plyG_ok HMok.out (fun c hc => ⟨HMok.out.2.2.2.1 c hc, (HIn.out.cok c hc).2⟩) (fun t ht c hc => ((HIn.out.tok t ht).2 c hc).2.2) HIn.out.wok _ _ (by simp)
    clear hMr hts0 hMts hInM
    by_cases hjm : j < nt
    · obtain ⟨bl, ol, q, A', n', k', ar, rfl, hbl, e0, e1, hlk, hri, HXc, hmc⟩ := hRL.val hjm
      obtain ⟨hq01, har2, har⟩ := (thL_ok x2 0).2 _ hmc
      dsimp only at hq01 har2 har
      obtain ⟨qn, rfl⟩ : ∃ qn : Nat, q = qn := ⟨q.toNat, by omega⟩
      have hqn : qn < 2 := by omega
      obtain rfl : 2 = n' := by rw [← hri.len]; exact har2.symm
      have HAR := Lib.hid (show ∀ x ∈ ar, inW x from fun x hx => by have := har x hx; unfold inW; omega)
      have HAR2 := Lib.hid har2
      by_cases hL0 : L = 0
      · subst hL0
        have hm3 : m3 = a := by
          have h1 := HAt.out.out
          rw [HAt.out.g_, show 4000 - 0 = 4000 from rfl, ← HT1.out, LT1.out] at h1
          rw [h1, HA.out]
        subst hm3
        clear hmc har hri
        go_wp2
        go_ret
        exact ⟨by first | rfl | simp, hbF.trans (hbel.mono hbF.size)⟩
      · obtain ⟨bc, oc, cA, cn', ck, code, hAc, hbc, hcc, hlk3, hro, HCC, hmcc⟩ := HIn.out.cs.val hqn
        simp only [Option.some.injEq, Addr.mk.injEq, and_true] at hAc
        obtain ⟨rfl, rfl⟩ := hAc
        rw [Nat.zero_add] at hcc
        have hoc := HMok.out.2.2.2.1 code hmcc
        have hoi := (HIn.out.cok code hmcc).2
        have HLC := Lib.hid hro.len
        have hcn200 : cn' ≤ 200 := by rw [← HLC.out]; exact hoc.1
        have hgw := HGok.out.w
        have hvm := vmR_good (L := L) hoc (show ar.length ≤ 8 by rw [har2]; omega) hgw.1 (by omega)
        obtain ⟨Tq, hTq⟩ : ∃ Tq, Tq = (rn code L (st0 ar g.w)).1.t := ⟨_, rfl⟩
        obtain ⟨Wq, hWq⟩ : ∃ Wq, Wq = (rn code L (st0 ar g.w)).1.w := ⟨_, rfl⟩
        obtain ⟨Nq, hNq⟩ : ∃ Nq, Nq = (rn code L (st0 ar g.w)).2.1 := ⟨_, rfl⟩
        obtain ⟨Eq', hEq⟩ : ∃ Eq', Eq' = (rn code L (st0 ar g.w)).2.2 := ⟨_, rfl⟩
        rw [← hTq, ← hWq, ← hNq, ← hEq] at hvm
        have hcall := HAt.out.call (L := L) (c := ⟨qn, ar⟩) (by rw [HMts.out]; exact HXc.out) (by omega)
        dsimp only at hcall
        rw [Int.toNat_natCast, HCC.out, Option.getD_some, ← hTq, ← hWq, ← hNq, ← hEq, show 4000 - L + L = 4000 by omega, ← HT1.out] at hcall
        have hNL : Nq ≤ L := by
          rw [hNq]
          exact (rn_mono code L L (st0 ar g.w) (Nat.le_refl _)).2.2.1
        have HVM := Lib.hid hvm
        have HCall := Lib.hid hcall
        have HOI := Lib.hid hoi
        have HGW := Lib.hid hgw
        have hB1 := (Below.refl wr.heap.size wr).alloc (Nat.le_refl _) (Obj.cells #[.int .i64 qn, .slice A' 2 k'] 60)
        have hro1 := hro.below hB1
        have hri1 := hri.below hB1
        have hrn1 := HRn.out.below hB1
        have hbelA := hbel.alloc hszr (Obj.cells #[.int .i64 qn, .slice A' 2 k'] 60)
        have hlbl : bl < wr.heap.size := hbl
        have hlbc : gc < wr.heap.size := hbc
        clear hmc har hri hro hmcc hoc hoi hgw hvm hcall hTq hWq hNq hEq hq01 har2
        go_wp2
        refine region_two [0, 1, 2, 3, 4, 5, 6, 7, 8, 9] [10, 11, 12, 13, 14, 15, 16, 17, 18, 19] (by kernel_rfl) (by kernel_rfl) ?_
        simp only [pick, List.map_cons, List.map_nil, List.getD_cons_zero, List.getD_cons_succ]
        go_wp2_with fail
        refine (vm_Run code ar g.w L cA A' An cn' ck 2 k' 8 cn (wr.alloc (Obj.cells #[.int .i64 qn, .slice A' 2 k'] 60)).drew (HT.out.below (hbF.trans ((hbelA.drew).mono hbF.size)) HT.out.lt) (Rd.more (Rd.heap hro1 rfl) (by simp)) (by omega) HOI.out (Rd.more (Rd.heap hri1 rfl) (by simp)) (by omega) HAR.out (Rd.more (Rd.heap hrn1 rfl) (by simp)) (by omega) HGW.out.2 Tq Wq Nq Eq' HVM.out.symm).mono ?_
        rintro e w7 ⟨D1, k1, e1', D2, k2, e2', rfl, hrt, hrw, hl1', hl2', hk1, hk2, hb7⟩
        have hb7w : Below wr.heap.size wr w7 := hB1.drew.trans (hb7.mono (by simp))
        have hbel7 := hbel.trans (hb7w.mono hszr)
        have hX7 := (hXr.below hb7w).more hb7w.size
        have hsz7 := hb7w.size
        clear hro1 hri1 hrn1 hbelA hB1 hb7 e0 e1 hcc z0 z1 z2 c6 hXr
        by_cases hE : Eq' = 11
        · have hm3 : m3 = a + 1 := by
            have := HCall.out.1 hE
            rw [LT1.out] at this
            rw [this, HA.out]
          subst hE hm3
          clear hX7
          go_wp2
          go_ret
          exact ⟨by first | rfl | simp, hbF.trans (hbel7.mono hbF.size)⟩
        · obtain ⟨g', hAt', hmx, hgw', st, st', es, hT1e⟩ := HCall.out.2 hE
          have hl : g.out.length = a := by rw [HAt.out.out, HA.out]
          have hta : T1[a]? = some ⟨st, 0, j, false, 0, []⟩ := by rw [hT1e, List.getElem?_append_right (by omega), hl, Nat.sub_self]; rfl
          have htb : T1[a + 1]? = some ⟨st', 0, j, true, Eq', Tq⟩ := by rw [hT1e, List.getElem?_append_right (by omega), hl, show a + 1 - a = 1 by omega]; rfl
          have hm32 : a + 2 ≤ m3 := by rw [← LT1.out, hT1e]; simp; omega
          have hk28 : k2 = 8 := by
            rw [← hrw.len, ← hgw', hAt'.g_, plyG_wl, HM.out]
            rfl
          subst hk28
          have HGw := Lib.hid hgw'
          have HAt' := Lib.hid hAt'
          obtain ⟨b, o, A8, n8, k8, x, rfl, hbB, q0, q1, q2, q3, q4, q5, hlk8, hn8, hri8, HX8, hmem8⟩ := hX7.val (i := a) (by omega)
          obtain ⟨b', o', A9, n9, k9, y, hB', hbB', p0, p1, p2, p3, p4, p5, hlk9, hn9, hri9, HX9, hmem9⟩ := hX7.val (i := a + 1) (by omega)
          simp only [Option.some.injEq, Addr.mk.injEq, and_true] at hB'
          obtain ⟨rfl, rfl⟩ := hB'
          have hxe : x = ⟨st, 0, j, false, 0, []⟩ := by have h1 := HX8.out; rw [hta] at h1; exact (Option.some.inj h1).symm
          have hye : y = ⟨st', 0, j, true, Eq', Tq⟩ := by have h1 := HX9.out; rw [htb] at h1; exact (Option.some.inj h1).symm
          subst hxe hye
          dsimp only at q3 p2 p3 p4 hri9
          have hto9 := hri9
          clear hX7 hmem8 hmem9 HX8 HX9 hta htb hT1e hl hri8 hri9 q0 q1 q2 q4 q5 p0 p1 hgw' hAt'
          rcases Nat.eq_zero_or_pos Nq with hN0 | hN0
          · subst hN0
            have hmx1 : 1 ≤ L := by omega
            go_wp2_with fail
            refine (keep_sameInts Tq Tq A9 D1 n9 k9 k1 e1' w7 w7.heap.size w7.heap.size true hto9 hrt (by simp) (by omega) (by omega)).mono ?_
            rintro e w8 ⟨rfl, m8, rfl⟩
            go_wp2
            go_roundw
            case rel =>
              refine ⟨j + 1, L - max 1 0, a + 2, g', D2, e2', by omega, ?_, by omega, by go_num, by go_num, ?_, rfl, ?_, ?_, ?_⟩
              · show _ = _; have := HA.out; omega
              · refine val_int ?_
                omega
              · show RI _ _ _ _ _ _; rw [HGw.out]; exact Rd.heap hrw rfl
              · show At _ _ _ _; have := HAt'.out; rw [show 4000 - L + max 1 0 = 4000 - (L - max 1 0) by omega] at this; exact this
              · exact hbel7.drewN _
            case measure => simp [intOf]; omega
          · have hmxe : max 1 Nq = Nq := by omega
            go_wp2_with fail
            refine (keep_sameInts Tq Tq A9 D1 n9 k9 k1 e1' w7 w7.heap.size w7.heap.size true hto9 hrt (by simp) (by omega) (by omega)).mono ?_
            rintro e w8 ⟨rfl, m8, rfl⟩
            go_wp2
            go_roundw
            case rel =>
              refine ⟨j + 1, L - max 1 Nq, a + 2, g', D2, e2', by omega, ?_, by omega, by go_num, by go_num, ?_, rfl, ?_, ?_, ?_⟩
              · show _ = _; have := HA.out; omega
              · refine val_int ?_
                omega
              · show RI _ _ _ _ _ _; rw [HGw.out]; exact Rd.heap hrw rfl
              · show At _ _ _ _; have := HAt'.out; rw [show 4000 - L + max 1 Nq = 4000 - (L - max 1 Nq) by omega] at this; exact this
              · exact hbel7.drewN _
            case measure => simp [intOf]; omega
    · obtain rfl : nt = j := by omega
      have hdone := HAt.out.done (by rw [HMts.out]; exact List.getElem?_eq_none (by rw [← HNT.out]; omega)) L
      rw [show 4000 - L + L = 4000 by omega] at hdone
      have hm3 : m3 = a := by
        rw [← LT1.out, HT1.out, hdone, HAt.out.out, HA.out]
      have hWg : W1 = g.w := by rw [HW1.out, hdone]
      subst hm3
      rw [hWg] at hWr
      have hRn := HRn.out
      have hm4 : m4 ≤ 200 := hm4
      clear hdone hWg
      go_wp2_with fail
      refine (keep_sameInts g.w g.w An B4 8 cn m4 d4 wr wr.heap.size wr.heap.size true hRn hWr (by simp) (by omega) (by omega)).mono ?_
      rintro e w8 ⟨rfl, m8, rfl⟩
      go_wp2
      go_ret
      exact ⟨by first | rfl | simp, hbF.trans ((hbel.drewN _).mono hbF.size)⟩
end Go.Proofs.YtjihopbapnfppaaDoor
