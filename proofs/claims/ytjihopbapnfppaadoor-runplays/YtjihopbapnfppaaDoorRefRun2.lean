/- What the document's answer to run.Play does. No statement of the seat is proved here; no condition. -/
import Derived.Test.YtjihopbapnfppaaDoorRefRunOne
set_option linter.unusedSimpArgs false
set_option linter.unusedVariables false
namespace Go.Proofs.YtjihopbapnfppaaDoor
open Go.RowKit Go.Ord Go.Baro Go.Maps

set_option maxRecDepth 100000 in
set_option maxHeartbeats 4000000 in
theorem ref_RunPlayed (w : World) (Aw : Option Addr) (nw cw : Nat) (Ac : Option Addr) (nc cc : Nat) (At : Option Addr) (nt ct : Nat) (m : Mc) (As : Option Addr) (ns cs : Nat) (s : List Int) (T : List Ev) (W : List Int) (E : Int) (hm : InM w Aw nw cw Ac nc cc At nt ct m) (hs : RI w w.heap.size .i64 As ns s) (hn : ns ≤ 140737488355328) (hR : PlR m s T W E) :
    Calls Tryd.prog 29 #[.agg #[.slice Aw nw cw, .slice Ac nc cc, .slice At nt ct], .slice As ns cs] w (PlPost T W E w) := by
  have LS := Lib.hid hs.len
  have HM := Lib.hid hm
  have h0 : Below w.heap.size w w := Below.refl _ _
  have hA := h0.alloc (Nat.le_refl _) (Obj.cells #[.slice Aw nw cw, .slice Ac nc cc, .slice At nt ct] 45)
  have bX := Box.newAt w 45 [.slice Aw nw cw, .slice Ac nc cc, .slice At nt ct] w.heap.size rfl
  have hmA : InM (w.alloc (Obj.cells #[.slice Aw nw cw, .slice Ac nc cc, .slice At nt ct] 45)) Aw nw cw Ac nc cc At nt ct m := hm.below hA
  have HMA := Lib.hid hmA
  clear hm hmA
  rcases hR with ⟨hno, rfl, rfl, rfl⟩ | ⟨hok, hbig, rfl, rfl, rfl⟩ | hR
  · have HNO := Lib.hid hno
    clear hno
    go_enter Tryd.func29, Tryd.ntmps29
    go_wp2_with fail
    refine (ref_MachineMay _ Aw nw cw Ac nc cc At nt ct m false HMA.out ⟨(fun h => nomatch h), fun h => absurd h HNO.out⟩).mono ?_
    rintro e w1 ⟨rfl, hb1⟩
    go_wp2
    go_ret3
    exact ⟨none, 0, 0, none, 0, 0, rfl, REv.nil _ _, RI.nil _ _ _ _, Nat.le_refl _, Nat.le_refl _, by omega, by omega, hA.trans (hb1.mono (by simp))⟩
  · have HOK := Lib.hid hok
    have hbn : 6000 < ns := by rw [LS.out] at hbig; exact hbig
    clear hok hbig
    go_enter Tryd.func29, Tryd.ntmps29
    go_wp2_with fail
    refine (ref_MachineMay _ Aw nw cw Ac nc cc At nt ct m true HMA.out ⟨fun _ => HOK.out, fun _ => rfl⟩).mono ?_
    rintro e w1 ⟨rfl, hb1⟩
    go_wp2
    go_ret3
    exact ⟨none, 0, 0, none, 0, 0, rfl, REv.nil _ _, RI.nil _ _ _ _, Nat.le_refl _, Nat.le_refl _, by omega, by omega, hA.trans (hb1.mono (by simp))⟩
  have hok : okMc m := by rcases hR with hR | hR <;> exact hR.1
  have hsl : ns ≤ 6000 := by rw [← LS.out]; rcases hR with hR | hR <;> exact hR.2.1
  have HOK := Lib.hid hok
  have HR := Lib.hid hR
  clear hok hR
  go_enter Tryd.func29, Tryd.ntmps29
  go_wp2_with fail
  refine (ref_MachineMay _ Aw nw cw Ac nc cc At nt ct m true HMA.out ⟨fun _ => HOK.out, fun _ => rfl⟩).mono ?_
  rintro e w1 ⟨rfl, hb1⟩
  have bX1 := bX.below hb1 (by simp)
  have hb2 := hA.trans (hb1.mono (by simp))
  have hs1 := hb2.size
  have lX1 := bX1.lt
  have x0 : w1.cell? ⟨w.heap.size, 0, none⟩ = _ := bX1.cell 0
  have x1 : w1.cell? ⟨w.heap.size, 1, none⟩ = _ := bX1.cell 1
  have x2 : w1.cell? ⟨w.heap.size, 2, none⟩ = _ := bX1.cell 2
  simp only [List.getElem?_cons_zero, List.getElem?_cons_succ] at x0 x1 x2
  have LT := Lib.hid HM.out.ts.len
  have hnt4 : nt ≤ 4 := by have := HOK.out.2.2.1; rw [LT.out] at this; exact this
  go_wp2
  go_loopw [24] (fun i wr => ∃ j : Nat, j ≤ ns ∧ i = .int .i64 j ∧ Hid (∀ x ∈ s.take j, 0 ≤ x ∧ x < (nt : Int)) ∧ wr = w1) (fun i _ => ns - (intOf i).toNat)
  case atStart => exact ⟨0, Nat.zero_le _, rfl, by intro c h; simp at h, rfl⟩
  case round =>
    obtain ⟨j, hj, rfl, HS, rfl⟩ := hrel
    by_cases hjm : j < ns
    · obtain ⟨b, o, x, rfl, hbB, hcell, HX, hmem⟩ := (hs.below hb2).val hjm
      have hbad : x < 0 ∨ (nt : Int) ≤ x → T = [] ∧ W = [] ∧ E = 2 := by
        intro hx
        rcases HR.out with ⟨_, _, _, h⟩ | ⟨_, _, h, _⟩
        · exact h
        · have := h x hmem; rw [LT.out] at this; omega
      clear hmem
      by_cases c1 : x < 0
      · obtain ⟨rfl, rfl, rfl⟩ := hbad (.inl c1)
        clear hbad
        go_wp2
        go_ret3
        exact ⟨none, 0, 0, none, 0, 0, rfl, REv.nil _ _, RI.nil _ _ _ _, Nat.le_refl _, Nat.le_refl _, by omega, by omega, hb2⟩
      by_cases c2 : (nt : Int) ≤ x
      · obtain ⟨rfl, rfl, rfl⟩ := hbad (.inr c2)
        clear hbad
        go_wp2
        go_ret3
        exact ⟨none, 0, 0, none, 0, 0, rfl, REv.nil _ _, RI.nil _ _ _ _, Nat.le_refl _, Nat.le_refl _, by omega, by omega, hb2⟩
      clear hbad
      go_wp2
      go_roundw
      case rel =>
        refine ⟨j + 1, by omega, by go_num, ?_, by first | rfl | trivial⟩
        intro d hd
        rw [at_take HX.out] at hd
        rcases List.mem_append.1 hd with hd | hd
        · exact HS.out d hd
        · rw [List.mem_singleton.1 hd]; omega
      case measure => simp [intOf]; omega
    · obtain rfl : ns = j := by omega
      have HS2 := HS.out
      rw [List.take_of_length_le (by rw [LS.out]; omega)] at HS2
      have HS := Lib.hid HS2
      clear HS2
      have hgood : T = (plyG m 0 (s.map Int.toNat) (g0 m)).out ∧ W = (plyG m 0 (s.map Int.toNat) (g0 m)).w ∧ E = 0 := by
        rcases HR.out with ⟨_, _, ⟨x, hx, hx2⟩, _⟩ | ⟨_, _, _, h⟩
        · have := HS.out x hx; rw [LT.out] at hx2; omega
        · exact h
      obtain ⟨rT, rW, rfl⟩ := hgood
      have HTW := Lib.hid (And.intro rT rW)
      clear rT rW HR
      obtain ⟨wo, rfl⟩ : ∃ wo, wo = wr := ⟨wr, rfl⟩
      have hRw := RI.below HM.out.ws hb2
      have LW := Lib.hid HM.out.ws.len
      have hnw : nw ≤ 200 := by have := HOK.out.1; rw [LW.out] at this; exact this
      go_wp2_with (at_builtin; go_must (refine app_srcB eltIntP wo rfl (.const (.slice none 0 0)) (.tmp 39) rfl (w.heap.size + 1) _ 0 [] rfl (World.ownsRow_nil _ _ _ _) _ _ _ (m.ws.map (Value.int .i64)) (by rfl) _ hRw (one_ints _ _) (by omega) (by omega) (by omega) ?_); intro wv w3 hv3 hg3 hbel3 hsz3 hblk3)
      rw [List.nil_append, Nat.zero_add] at hv3
      obtain ⟨wA, wc, rfl, _⟩ := own_form hv3
      have hP0 := Pl.init (m := m) (w := w3) (wv := .slice wA nw wc) (B := w.heap.size + 1) (by rw [LW.out]; exact hv3) hsz3
      have hbel0 := hbel3 wo (Below.refl _ _)
      have HP0 := Lib.hid hP0
      have hb0 := (hbel0.alloc hsz3 (.cells #[.pointer none, .pointer none, .pointer none, .pointer none] 89)).alloc (by simp; omega) (.cells #[.int .i64 0, .int .i64 0, .int .i64 0, .int .i64 0] 90)
      clear hP0 hv3 hbel3 hg3 hblk3 hRw hbel0
      go_loopw [12, 43] (fun ov i wr => ∃ (j : Nat) (own : Nat → Nat) (ps : Nat → Option Nat) (g : Gs), j ≤ ns ∧ i = .int .i64 j ∧ Hid (g = plyG m 0 ((s.take j).map Int.toNat) (g0 m)) ∧ Hid (Pl own wr (w.heap.size + 1) w3.heap.size (w3.heap.size + 1) (.slice wA nw wc) ov ps (8 + 2 * j) 4 g) ∧ Below (w.heap.size + 1) wo wr ∧ ∃ A n c, ov = .slice A n c) (fun _ i _ => ns - (intOf i).toNat)
      case atStart => exact ⟨0, _, _, _, Nat.zero_le _, rfl, rfl, HP0.out, hb0, _, _, _, rfl⟩
      case round =>
        obtain ⟨j, own, ps, g, hj, rfl, HG, HP, hbel, Ao, no, co, rfl⟩ := hrel
        have hbw := hb2.trans (hbel.mono (by omega))
        have bXr := bX1.below hbel (by omega)
        have lXr := bXr.lt
        have y0 : wr.cell? ⟨w.heap.size, 0, none⟩ = _ := bXr.cell 0
        have y1 : wr.cell? ⟨w.heap.size, 1, none⟩ = _ := bXr.cell 1
        have y2 : wr.cell? ⟨w.heap.size, 2, none⟩ = _ := bXr.cell 2
        simp only [List.getElem?_cons_zero, List.getElem?_cons_succ] at y0 y1 y2
        have hszr := HP.out.hB
        by_cases hjm : j < ns
        · have hGO : GOk m j g := by
            rw [HG.out]
            exact plyG_ok HOK.out (fun c hc => ⟨HOK.out.2.2.2.1 c hc, (HM.out.cok c hc).2⟩) (fun t ht c hc => ((HM.out.tok t ht).2 c hc).2.2) HM.out.wok j _ (by simp [LS.out]; omega)
          have HGO := Lib.hid hGO
          obtain ⟨b0, o0, x, rfl, hbB0, hcell0, HX, hmem⟩ := (hs.below hbw).val hjm
          obtain ⟨n, rfl⟩ : ∃ n : Nat, x = n := ⟨x.toNat, by have := HS.out x hmem; omega⟩
          have hn : n < nt := by have := HS.out _ hmem; omega
          have hn4 : n < 4 := by omega
          clear hmem hGO
          have c1 := HP.out.nowAt hn4
          have c2 := HP.out.begunAt hn4
          obtain ⟨bg, hbg⟩ : ∃ bg, bg = (g.th n).bg := ⟨_, rfl⟩
          rw [← hbg] at c2
          have HBG := Lib.hid hbg
          clear hbg
          obtain ⟨hln, hlg⟩ := HP.out.lt
          obtain ⟨bt, ot, A1, n1, k1, t, rfl, hbt, hct0, hlk, hrl, HT, hmt⟩ := HM.out.ts.val hn
          have hct := (hbw.cell (p := ⟨bt, ot + n, none⟩) hbt).trans hct0
          have HTL := Lib.hid hrl.len
          have hn1 : n1 ≤ 20 := by have := (HOK.out.2.2.2.2 t hmt).1; rw [HTL.out] at this; exact this
          have HMT := Lib.hid hmt
          have hbg1 : bg ≤ n1 := by have := HGO.out.bg n; rw [HT.out, Option.getD_some, HTL.out, ← HBG.out] at this; exact this
          clear hmt hct0
          cases hnow : (g.th n).now with
          | none =>
            have hpn := HP.out.nil hn4 (by omega) hnow
            rw [hpn] at c1
            have d1 : wr.cell? ⟨w3.heap.size, n, none⟩ = some (.pointer none) := c1
            have HPN := Lib.hid hpn
            clear c1 hpn
            have HNow := Lib.hid hnow
            clear hnow
            by_cases hend : bg = n1
            · obtain rfl : n1 = bg := hend.symm
              go_wp2
              refine region_two [0, 1, 2, 3, 4, 5, 6, 7, 8, 9] [] (by kernel_rfl) (by kernel_rfl) ?_
              simp only [pick, List.map_cons, List.map_nil, List.getD_cons_zero, List.getD_cons_succ]
              go_wp2
              go_roundw
              case rel =>
                refine ⟨j + 1, own, ps, g, by omega, by go_num, ?_, HP.out.drew.mono (by omega), hbel.drew, _, _, _, rfl⟩
                show _ = _
                rw [← ply_next HG.out HX.out]
                unfold actG
                rw [HNow.out, HT.out]
                dsimp only
                rw [Option.getD_some, List.getElem?_eq_none (by rw [HTL.out, ← HBG.out]; omega)]
              case measure => simp [intOf]; omega
            · have hlt : bg < n1 := by omega
              clear hend
              obtain ⟨b1, o1, q, A2, n2, k2, ar, rfl, hb1B, hq0, hq1, hlk2, hri, HXc, hmc⟩ := hrl.val hlt
              have e0 := (hbw.cell (p := ⟨b1, o1 + bg * 2, none⟩) hb1B).trans hq0
              have e1 := (hbw.cell (p := ⟨b1, o1 + bg * 2 + 1, none⟩) hb1B).trans hq1
              have HCL : okCl m ⟨q, ar⟩ := (HOK.out.2.2.2.2 t HMT.out).2 _ hmc
              have LAR := Lib.hid hri.len
              have LC := Lib.hid HM.out.cs.len
              unfold okCl at HCL
              dsimp only at HCL
              rw [LAR.out, LC.out] at HCL
              obtain ⟨⟨hq2, hq3⟩, hn2⟩ := HCL
              obtain ⟨qn, rfl⟩ : ∃ qn : Nat, q = qn := ⟨q.toNat, by omega⟩
              have hqn : qn < nc := by omega
              obtain ⟨b2, o2, cA, cn, ck, cl, rfl, hb2B, hcc0, hlk3, hro, HCC, hmcc⟩ := HM.out.cs.val hqn
              have e2 := (hbw.cell (p := ⟨b2, o2 + qn, none⟩) hb2B).trans hcc0
              have f2 : b2 < wr.heap.size := by omega
              have LCL := Lib.hid hro.len
              have hcn : cn ≤ 200 := by have := (HOK.out.2.2.2.1 cl hmcc).1; rw [LCL.out] at this; exact this
              have HAW := Lib.hid ((HM.out.tok t HMT.out).2 _ hmc).2.2
              have HMCC := Lib.hid hmcc
              clear hmc hmcc hq0 hq1 hcc0 hq2 hq3
              go_wp2
              refine region_two [0, 1, 2, 3, 4, 5, 6, 7, 8, 9] [] (by kernel_rfl) (by kernel_rfl) ?_
              simp only [pick, List.map_cons, List.map_nil, List.getD_cons_zero, List.getD_cons_succ]
              go_wp2
              refine region_first [0, 1, 2, 3, 4, 5, 6, 7, 8, 9] (.cons 10 (seq [11] .nil)) (by kernel_rfl) (by kernel_rfl) ?_
              simp only [pick, List.map_cons, List.map_nil, List.getD_cons_zero, List.getD_cons_succ]
              go_wp2
              refine ord_call (by kernel_rfl) ?_
              simp only [pick, List.map_cons, List.map_nil, List.getD_cons_zero, List.getD_cons_succ]
              go_wp2
              refine ⟨fun k hk => Below.heap_alloc wr _ k hk, ?_⟩
              refine ord_last [11] (by kernel_rfl) ?_
              simp only [pick, List.map_cons, List.map_nil, List.getD_cons_zero, List.getD_cons_succ]
              go_wp2
              refine region_first [0, 1, 2, 3, 4, 5, 6, 7, 8] (.cons 9 (seq [10] (seq [11] .nil))) (by kernel_rfl) (by kernel_rfl) ?_
              simp only [pick, List.map_cons, List.map_nil, List.getD_cons_zero, List.getD_cons_succ]
              go_wp2
              refine ord_call (by kernel_rfl) ?_
              simp only [pick, List.map_cons, List.map_nil, List.getD_cons_zero, List.getD_cons_succ]
              go_wp2_with fail
              obtain ⟨ovn, hovn⟩ : ∃ ovn : Bool, ovn = true ↔ cn = 0 := ⟨decide (cn = 0), by simp⟩
              have HOV := Lib.hid hovn
              clear hovn
              refine (ref_NewWorkerAt (wr.alloc (Obj.cells #[.int .i64 qn, .slice A2 n2 k2] 60)).drew.drew.drew cA A2 cn ck n2 k2 (wr.heap.size + 1) ar ovn (by simp) (Rd.more (Rd.heap ((hri.below hbw).below ((Below.refl w.heap.size wr).alloc (by omega) (Obj.cells #[.int .i64 qn, .slice A2 n2 k2] 60))) rfl) (by simp; omega)) hn2 hcn HAW.out HOV.out).mono ?_
              rintro e w4 ⟨rfl, bW, mW, hb4⟩
              have hb4' : Below wr.heap.size wr w4 := ((Below.refl wr.heap.size wr).alloc (Nat.le_refl _) _).drew.drew.drew.trans (hb4.mono (by omega))
              obtain ⟨own1, ho1, ho2, ho3⟩ : ∃ own1 : Nat → Nat, (∀ k, k < wr.heap.size → own1 k = own k) ∧ own1 (wr.heap.size + 1 + 1) = 10 + 3 * n ∧ own1 (wr.heap.size + 1) = 11 + 3 * n :=
                ⟨fun k => if k < wr.heap.size then own k else if k = wr.heap.size + 1 + 1 then 10 + 3 * n else 11 + 3 * n, fun k hk => if_pos hk, by dsimp only; rw [if_neg (by omega), if_pos rfl], by dsimp only; rw [if_neg (by omega), if_neg (by omega)]⟩
              have hP4 := (HP.out.retag ho1).below hb4'
              have hbe4 := hbel.trans (hb4'.mono hszr)
              have hW4 : Wt own1 w4 (w.heap.size + 1) n (wr.heap.size + 1 + 1) (8 + 2 * j) (live cl ar) := by
                refine ⟨wr.heap.size + 1, cA, ck, .slice none 0 0, ovn, ?_, ?_, mW.mono (by omega), World.ownsRow_nil _ _ _ _, ?_, ho2, ho3, fun k hk => (by cases hk), by omega, by omega⟩
                · show Box w4 _ _ [.slice cA cl.length ck, _, _, _, _, _]
                  rw [LCL.out]; exact bW
                · show _ ↔ cl.length = 0
                  rw [LCL.out]; exact HOV.out
                · show RO w4 _ cA cl.length cl
                  rw [LCL.out]; exact (hro.below (hbw.trans (hb4'.mono (by omega)))).more (by omega)
              obtain ⟨ps5, hps5⟩ : ∃ ps5, ps5 = putP ps n (some (wr.heap.size + 1 + 1)) := ⟨_, rfl⟩
              obtain ⟨g5, hg5⟩ : ∃ g5 : Gs, g5 = { g with th := putT g.th n ⟨some (live cl ar), (g.th n).bg⟩ } := ⟨_, rfl⟩
              have hps : ps5 n = some (wr.heap.size + 1 + 1) := by rw [hps5]; simp [putP]
              have hP5 : Pl own1 (w4.setCell ⟨w3.heap.size, n, none⟩ (.pointer (some ⟨wr.heap.size + 1 + 1, 0, none⟩))) (w.heap.size + 1) w3.heap.size (w3.heap.size + 1) (.slice wA nw wc) (.slice Ao no co) ps5 (8 + 2 * j) 4 g5 := by
                rw [hps5, hg5]
                refine ((hP4.out_ n).setNow hn4 (some (wr.heap.size + 1 + 1))).back (p := some (wr.heap.size + 1 + 1)) (t := some (live cl ar)) (by simp [putP]) (Wt.un (X := fun k => k = w3.heap.size) hW4 (un_at (X := fun k => k = w3.heap.size) (Un.refl _ _) rfl _ _) (fun k hk hx => ?_) hP4.hB (Nat.le_refl _))
                subst hx
                have := hP4.tn
                have := hP4.Bn
                omega
              have k1 : w4.cell? ⟨w3.heap.size, n, none⟩ = some (.pointer none) := by have := hP4.nowAt hn4; rw [HPN.out] at this; exact this
              have k1f := hP4.now.frozen n
              have kb2 : w4.cell? ⟨w3.heap.size + 1, n, none⟩ = some (.int .i64 bg) := by have := hP4.begunAt hn4; rw [← HBG.out] at this; exact this
              obtain ⟨hln4, hlg4⟩ := hP4.lt
              obtain ⟨rows, r1, r2, r3, r4⟩ := hP5.evs
              have hno : no = g5.out.length := by
                obtain ⟨_, _, he, _⟩ := own_form r3
                injection he
              have hbg5 : (g5.th n).bg = bg := by rw [hg5]; simp [putT, ← HBG.out]
              have hg5o : g5.out = g.out := by rw [hg5]
              have hnol : no ≤ 12000 := by have := HGO.out.out; rw [hno, hg5o]; omega
              have r3' : (w4.setCell ⟨w3.heap.size, n, none⟩ (.pointer (some ⟨wr.heap.size + 1 + 1, 0, none⟩))).ownsRow (w.heap.size + 1) 51 6 (.slice Ao no co) no rows.flatten := by rw [hno]; rw [hno] at r3; exact r3
              have hev : eP (fun b => own1 b = 5) (w4.setCell ⟨w3.heap.size, n, none⟩ (.pointer (some ⟨wr.heap.size + 1 + 1, 0, none⟩))) (evC ⟨j, n, bg, false, 0, []⟩ (.slice none 0 0)) ⟨j, n, bg, false, 0, []⟩ :=
                ⟨none, 0, 0, rfl, Nat.le_refl _, by omega, RI.nil _ _ _ _, fun h => absurd h (by omega)⟩
              have HEXT : Hid (∀ k, k < wr.heap.size + 1 → w4.heap[k]? = (wr.alloc (Obj.cells #[.int .i64 qn, .slice A2 n2 k2] 60)).heap[k]?) := fun k hk => hb4.block k hk
              have HP5 := Lib.hid hP5
              have HR1 := Lib.hid r1
              have HR2 := Lib.hid r2
              have HR3 := Lib.hid r3
              have HR4 := Lib.hid r4
              have HR3' := Lib.hid r3'
              have HNO := Lib.hid hno
              have HBG5 := Lib.hid hbg5
              have HPS := Lib.hid hps
              have HG5 := Lib.hid hg5
              have HEV1 := Lib.hid hev
              have hsz4 := hb4'.size
              clear hP4 hW4 hP5 r1 r2 r3 r4 r3' hno hbg5 hps hg5 hg5o hps5 ho1 ho2 ho3 bW mW hb4 hev
              go_wp2
              refine ⟨fun k hk => HEXT.out k (by simpa using hk), ?_⟩
              refine ord_more [10] (seq [11] .nil) (by kernel_rfl) ?_
              simp only [pick, List.map_cons, List.map_nil, List.getD_cons_zero, List.getD_cons_succ]
              go_wp2
              refine ord_last [11] (by kernel_rfl) ?_
              simp only [pick, List.map_cons, List.map_nil, List.getD_cons_zero, List.getD_cons_succ]
              go_wp2_with (at_builtin; go_must (refine app_litB eltEv _ rfl _ _ rfl (w.heap.size + 1) (.slice Ao no co) no rows.flatten rfl (by exact HR3'.out) 1 [.int .i64 j, .int .i64 n, .int .i64 bg, .bool false, .int .i64 0, .slice none 0 0] w4.heap.size (by simp) rfl rfl (one6 _ _ _ _ _ _ _ _) (by omega) (by omega) (by simp; omega) ?_); intro v6 w6 hv6 hg6 hb6; have HP6 := Lib.hid (HP5.out.event HR1.out HR2.out HR3.out HR4.out hv6 (by rw [HNO.out]) hg6 hb6 HEV1.out); have hbe6 : Below (w.heap.size + 1) wo w6 := ((below_at hbe4 (by have := HP5.out.Bn; omega) _ _).alloc (by simp; omega) _).grown hg6 (by simp; omega) (fun k hk => (HR3.out.lt k hk).1); obtain ⟨A6, c6, rfl, _⟩ := own_form hv6; have k16 : w6.cell? ⟨w3.heap.size, n, none⟩ = some (.pointer (some ⟨wr.heap.size + 1 + 1, 0, none⟩)) := (by have := HP6.out.nowAt hn4; rw [HPS.out] at this; exact this); have k26 : w6.cell? ⟨w3.heap.size + 1, n, none⟩ = some (.int .i64 bg) := (by have := HP6.out.begunAt hn4; dsimp only at this; rw [HBG5.out] at this; exact this); have k26f := HP6.out.begun.frozen n; obtain ⟨hln6, hlg6⟩ := HP6.out.lt; clear hv6 hg6 hb6)
              obtain ⟨g7, hg7⟩ : ∃ g7 : Gs, g7 = ⟨g.w, putT g.th n ⟨some (live cl ar), bg + 1⟩, g.out ++ [⟨j, n, bg, false, 0, []⟩]⟩ := ⟨_, rfl⟩
              obtain ⟨own7, hP7⟩ : ∃ own7, Pl own7 (w6.setCell ⟨w3.heap.size + 1, n, none⟩ (.int .i64 ((bg : Int) + 1))) (w.heap.size + 1) w3.heap.size (w3.heap.size + 1) (.slice wA nw wc) (.slice A6 (no + 1) c6) ps5 (8 + 2 * j) 4 g7 := by
                have := HP6.out.setBegun hn4 (bg + 1) (q := (bg : Int) + 1) (by omega)
                rw [HG5.out] at this
                subst hg7
                have hpp : putT (putT g.th n ⟨some (live cl ar), (g.th n).bg⟩) n ⟨(putT g.th n ⟨some (live cl ar), (g.th n).bg⟩ n).now, bg + 1⟩ = putT g.th n ⟨some (live cl ar), bg + 1⟩ := by
                  funext i; by_cases hi : i = n <;> simp [putT, hi]
                dsimp only at this
                rw [hpp] at this
                exact ⟨_, this⟩
              have HBQ : Hid ((g7.th n).bg = bg + 1) := by show _ = _; rw [hg7]; simp [putT]
              have hnow7 : (g7.th n).now = some (live cl ar) := by rw [hg7]; simp [putT]
              have HACT : Hid (actG m g j n = actL g7 j n (bg + 1) (live cl ar) g7.out) := by
                show _ = _
                have e : actG m g j n = actL g j n (bg + 1) (live cl ar) (g.out ++ [⟨j, n, bg, false, 0, []⟩]) := by
                  unfold actG
                  rw [HNow.out, HT.out, Option.getD_some]
                  dsimp only
                  rw [← HBG.out, HXc.out]
                  dsimp only
                  rw [Int.toNat_natCast, HCC.out, Option.getD_some]
                rw [e]
                exact actL_eq (t := ⟨some (live cl ar), bg + 1⟩) (by rw [hg7]) (by rw [hg7]) (by rw [hg7])
              have HGO2 : Hid (g7.out.length ≤ 12000) := by show _ ≤ _; rw [hg7]; have := HGO.out.out; simp; omega
              have HLO := Lib.hid (live_ok (c := cl) HAW.out)
              have HOC : Hid (okC (live cl ar).c) := HOK.out.2.2.2.1 cl HMCC.out
              have HOI : Hid (∀ o ∈ (live cl ar).c, inI o) := (HM.out.cok cl HMCC.out).2
              have HWO : Hid (WOk g7.w) := by show WOk _; rw [hg7]; exact HGO.out.w
              refine (ref_OneW _ own7 (w.heap.size + 1) w3.heap.size (w3.heap.size + 1)  (8 + 2 * j) n (wr.heap.size + 1 + 1) (.slice wA nw wc) (.slice A6 (no + 1) c6) ps5 g7 (live cl ar) hP7 hn4 HPS.out hnow7 HLO.out HOC.out HOI.out HWO.out (fun h => by show (0 : Int) < (cl.length : Int); have : cl.length ≠ 0 := h; omega) (by omega)).mono ?_
              rintro e w8 ⟨rfl, own8, l', W8, E8, en, v0, v1, v2, tv', hexc, hP8, hbox8, hown8, htt8, hgo, hb8⟩
              have hbel8 := (below_at hbe6 (by have := HP6.out.Bg; omega) _ _).trans hb8
              obtain ⟨tA, tk, rfl, htk, hrt, htag⟩ := tag_told hown8 htt8
              have z3 : w8.cell? ⟨wr.heap.size + 1 + 1, 3, none⟩ = _ := hbox8.cell 3
              have z4 : w8.cell? ⟨wr.heap.size + 1 + 1, 4, none⟩ = _ := hbox8.cell 4
              have z5 : w8.cell? ⟨wr.heap.size + 1 + 1, 5, none⟩ = _ := hbox8.cell 5
              simp only [List.getElem?_cons_zero, List.getElem?_cons_succ] at z3 z4 z5
              have k18 : w8.cell? ⟨w3.heap.size, n, none⟩ = some (.pointer (some ⟨wr.heap.size + 1 + 1, 0, none⟩)) := by
                have := hP8.nowAt hn4
                rw [HPS.out] at this
                exact this
              have k28 : w8.cell? ⟨w3.heap.size + 1, n, none⟩ = some (.int .i64 ((bg : Int) + 1)) := by
                have := hP8.begunAt hn4
                dsimp only at this
                rw [HBQ.out] at this
                exact this
              obtain ⟨hln8, hlg8⟩ := hP8.lt
              have lb8 := hbox8.lt
              have htl : l'.t.length ≤ 200 := by
                have := (exc_ok HOC.out HOI.out HLO.out HWO.out).2.1
                rw [hexc] at this
                exact this.2.2.2.2
              have HEX := Lib.hid hexc
              have hsz8 := hP8.hB
              cases en with
              | false =>
                have HPf := Lib.hid (hP8.back (t := some l') HPS.out (hgo rfl))
                clear hP8 hbox8 hown8 hgo hexc hrt htag htt8
                go_wp2
                go_roundw
                case rel =>
                  refine ⟨j + 1, own8, _, _, by omega, by go_num, ?_, HPf.out.mono (by omega), hbel8, _, _, _, rfl⟩
                  show _ = _
                  rw [← ply_next HG.out HX.out, HACT.out, actL_onR HEX.out, HBQ.out]
                case measure => simp [intOf]; omega
              | true =>
                have hP9 := hP8.retag5 hn4
                obtain ⟨rows9, s1, s2, s3, s4⟩ := hP9.evs
                dsimp only at s1 s3 s4
                have hn9 : no + 1 = g7.out.length := by
                  obtain ⟨_, _, he, _⟩ := own_form s3
                  injection he
                have s3' : w8.ownsRow (w.heap.size + 1) 51 6 (.slice A6 (no + 1) c6) (no + 1) rows9.flatten := by rw [← hn9] at s3; exact s3
                have hev : eP (fun b => (if own8 b = 12 + 3 * n then 5 else own8 b) = 5) w8 (evC ⟨j, n, bg, true, E8, l'.t⟩ (.slice tA l'.t.length tk)) ⟨j, n, bg, true, E8, l'.t⟩ :=
                  ⟨tA, _, tk, rfl, htk, htl, hrt, fun _ b o hA => by show (if own8 b = 12 + 3 * n then 5 else own8 b) = 5; rw [if_pos (htag b o hA)]⟩
                have hnq : no + 1 ≤ 12000 := by rw [hn9]; exact HGO2.out
                have HP9 := Lib.hid hP9
                have HS1 := Lib.hid s1
                have HS2 := Lib.hid s2
                have HS3 := Lib.hid s3
                have HS4 := Lib.hid s4
                have HS3' := Lib.hid s3'
                have HEV := Lib.hid hev
                have HN9 := Lib.hid hn9
                clear hP8 hbox8 hown8 hgo hexc hrt htag htt8 hP9 s1 s2 s3 s4 s3' hev hn9
                go_wp2
                refine region_two [0, 1, 2, 3, 4, 5, 6, 7, 8, 9, 10, 11, 12, 13, 14, 15, 16, 17, 18, 19] [20, 21, 22] (by kernel_rfl) (by kernel_rfl) ?_
                simp only [pick, List.map_cons, List.map_nil, List.getD_cons_zero, List.getD_cons_succ]
                go_wp2_with (at_builtin; go_must (refine app_litBd eltEv _ rfl _ _ rfl (w.heap.size + 1) (.slice A6 (no + 1) c6) (no + 1) rows9.flatten rfl (by exact HS3'.out) 1 [.int .i64 j, .int .i64 n, .int .i64 bg, .bool true, .int .i64 E8, .slice tA l'.t.length tk] w8.heap.size (by simp) rfl rfl (one6 _ _ _ _ _ _ _ _) (by omega) (by omega) hsz8 ?_); intro v10 w10 hv10 hg10 hb10; have HP10 := Lib.hid (HP9.out.event HS1.out HS2.out HS3.out HS4.out hv10 (by rw [HN9.out]) hg10 hb10 HEV.out); have hbe10 : Below (w.heap.size + 1) wo w10 := (hbel8.alloc (by omega) _).grown hg10 (by simp; omega) (fun k hk => (HS3'.out.lt k hk).1); obtain ⟨A10, c10, rfl, _⟩ := own_form hv10; have k10 : w10.cell? ⟨w3.heap.size, n, none⟩ = some (.pointer (some ⟨wr.heap.size + 1 + 1, 0, none⟩)) := (by have := HP10.out.nowAt hn4; rw [HPS.out] at this; exact this); have k10f := HP10.out.now.frozen n; obtain ⟨hln10, hlg10⟩ := HP10.out.lt; clear hv10 hg10 hb10)
                go_roundw
                case rel =>
                  have HPf := ((HP10.out.setNow hn4 none).back (p := none) (t := none) (by simp [putP]) trivial)
                  refine ⟨j + 1, _, _, _, by omega, by go_num, ?_, HPf.mono (by omega), below_at hbe10 (by have := HP10.out.Bn; omega) _ _, _, _, _, rfl⟩
                  show _ = _
                  rw [← ply_next HG.out HX.out, HACT.out, actL_off HEX.out]
                  dsimp only
                  rw [HBQ.out]
                  rfl
                case measure => simp [intOf]; omega
          | some l =>
            obtain ⟨bk, hbk⟩ : ∃ bk, bg = bk + 1 := ⟨bg - 1, by have := HGO.out.ps n l hnow; rw [← HBG.out] at this; omega⟩
            obtain ⟨bw, hpw, hWt⟩ := HP.out.live hn4 (by omega) hnow
            rw [hpw] at c1
            have d1 : wr.cell? ⟨w3.heap.size, n, none⟩ = some (.pointer (some ⟨bw, 0, none⟩)) := c1
            have HPS := Lib.hid hpw
            have HNow := Lib.hid hnow
            have HBQ : Hid ((g.th n).bg = bk + 1) := by show _ = _; rw [← HBG.out, hbk]
            have HACT : Hid (actG m g j n = actL g j n (bk + 1) l g.out) := by
              show _ = _
              unfold actG
              rw [HNow.out]
              dsimp only
              rw [HBQ.out]
            have hno : no = g.out.length := by
              obtain ⟨rows, _, _, r3, _⟩ := HP.out.evs
              obtain ⟨_, _, he, _⟩ := own_form r3
              injection he
            have HNO := Lib.hid hno
            have HGO2 : Hid (g.out.length ≤ 12000) := by show _ ≤ _; have := HGO.out.out; omega
            obtain ⟨hmc, hlo, hlt⟩ := HGO.out.th n l hnow
            have HLO := Lib.hid hlo
            have HLT := Lib.hid hlt
            have HOC := Lib.hid (HOK.out.2.2.2.1 l.c hmc)
            have HOI := Lib.hid (HM.out.cok l.c hmc).2
            have HWO := Lib.hid HGO.out.w
            have hbkl : bk ≤ 20 := by omega
            clear c1 hpw hWt hnow hno hmc hlo hlt hbk
            go_wp2_with fail
            refine (ref_OneW _ own (w.heap.size + 1) w3.heap.size (w3.heap.size + 1)  (8 + 2 * j) n bw (.slice wA nw wc) (.slice Ao no co) ps g l HP.out hn4 HPS.out HNow.out HLO.out HOC.out HOI.out HWO.out (fun _ => HLT.out) (by omega)).mono ?_
            rintro e w8 ⟨rfl, own8, l', W8, E8, en, v0, v1, v2, tv', hexc, hP8, hbox8, hown8, htt8, hgo, hb8⟩
            have hbel8 := hbel.trans hb8
            obtain ⟨tA, tk, rfl, htk, hrt, htag⟩ := tag_told hown8 htt8
            have z3 : w8.cell? ⟨bw, 3, none⟩ = _ := hbox8.cell 3
            have z4 : w8.cell? ⟨bw, 4, none⟩ = _ := hbox8.cell 4
            have z5 : w8.cell? ⟨bw, 5, none⟩ = _ := hbox8.cell 5
            simp only [List.getElem?_cons_zero, List.getElem?_cons_succ] at z3 z4 z5
            have k18 : w8.cell? ⟨w3.heap.size, n, none⟩ = some (.pointer (some ⟨bw, 0, none⟩)) := by
              have := hP8.nowAt hn4
              rw [HPS.out] at this
              exact this
            have k28 : w8.cell? ⟨w3.heap.size + 1, n, none⟩ = some (.int .i64 ((bk : Int) + 1)) := by
              have := hP8.begunAt hn4
              dsimp only at this
              rw [HBQ.out] at this
              exact this
            obtain ⟨hln8, hlg8⟩ := hP8.lt
            have lb8 := hbox8.lt
            have htl : l'.t.length ≤ 200 := by
              have := (exc_ok HOC.out HOI.out HLO.out HWO.out).2.1
              rw [hexc] at this
              exact this.2.2.2.2
            have HEX := Lib.hid hexc
            have hsz8 := hP8.hB
            cases en with
            | false =>
              have HPf := Lib.hid (hP8.back (t := some l') HPS.out (hgo rfl))
              clear hP8 hbox8 hown8 hgo hexc hrt htag htt8
              go_wp2
              go_roundw
              case rel =>
                refine ⟨j + 1, own8, _, _, by omega, by go_num, ?_, HPf.out.mono (by omega), hbel8, _, _, _, rfl⟩
                show _ = _
                rw [← ply_next HG.out HX.out, HACT.out, actL_onR HEX.out, HBQ.out]
              case measure => simp [intOf]; omega
            | true =>
              have hP9 := hP8.retag5 hn4
              obtain ⟨rows9, s1, s2, s3, s4⟩ := hP9.evs
              dsimp only at s1 s3 s4
              have hn9 : no = g.out.length := by
                obtain ⟨_, _, he, _⟩ := own_form s3
                injection he
              have s3' : w8.ownsRow (w.heap.size + 1) 51 6 (.slice Ao no co) (no) rows9.flatten := by rw [← hn9] at s3; exact s3
              have hev : eP (fun b => (if own8 b = 12 + 3 * n then 5 else own8 b) = 5) w8 (evC ⟨j, n, bk, true, E8, l'.t⟩ (.slice tA l'.t.length tk)) ⟨j, n, bk, true, E8, l'.t⟩ :=
                ⟨tA, _, tk, rfl, htk, htl, hrt, fun _ b o hA => by show (if own8 b = 12 + 3 * n then 5 else own8 b) = 5; rw [if_pos (htag b o hA)]⟩
              have hnq : no ≤ 12000 := by rw [hn9]; exact HGO2.out
              have HP9 := Lib.hid hP9
              have HS1 := Lib.hid s1
              have HS2 := Lib.hid s2
              have HS3 := Lib.hid s3
              have HS4 := Lib.hid s4
              have HS3' := Lib.hid s3'
              have HEV := Lib.hid hev
              have HN9 := Lib.hid hn9
              clear hP8 hbox8 hown8 hgo hexc hrt htag htt8 hP9 s1 s2 s3 s4 s3' hev hn9
              go_wp2
              refine region_two [0, 1, 2, 3, 4, 5, 6, 7, 8, 9, 10, 11, 12, 13, 14, 15, 16, 17, 18, 19] [20, 21, 22] (by kernel_rfl) (by kernel_rfl) ?_
              simp only [pick, List.map_cons, List.map_nil, List.getD_cons_zero, List.getD_cons_succ]
              go_wp2_with (at_builtin; go_must (refine app_litBd eltEv _ rfl _ _ rfl (w.heap.size + 1) (.slice Ao no co) (no) rows9.flatten rfl (by exact HS3'.out) 1 [.int .i64 j, .int .i64 n, .int .i64 bk, .bool true, .int .i64 E8, .slice tA l'.t.length tk] w8.heap.size (by simp) rfl rfl (one6 _ _ _ _ _ _ _ _) (by omega) (by omega) hsz8 ?_); intro v10 w10 hv10 hg10 hb10; have HP10 := Lib.hid (HP9.out.event HS1.out HS2.out HS3.out HS4.out hv10 (by rw [HN9.out]) hg10 hb10 HEV.out); have hbe10 : Below (w.heap.size + 1) wo w10 := (hbel8.alloc (by omega) _).grown hg10 (by simp; omega) (fun k hk => (HS3'.out.lt k hk).1); obtain ⟨A10, c10, rfl, _⟩ := own_form hv10; have k10 : w10.cell? ⟨w3.heap.size, n, none⟩ = some (.pointer (some ⟨bw, 0, none⟩)) := (by have := HP10.out.nowAt hn4; rw [HPS.out] at this; exact this); have k10f := HP10.out.now.frozen n; obtain ⟨hln10, hlg10⟩ := HP10.out.lt; clear hv10 hg10 hb10)
              go_roundw
              case rel =>
                have HPf := ((HP10.out.setNow hn4 none).back (p := none) (t := none) (by simp [putP]) trivial)
                refine ⟨j + 1, _, _, _, by omega, by go_num, ?_, HPf.mono (by omega), below_at hbe10 (by have := HP10.out.Bn; omega) _ _, _, _, _, rfl⟩
                show _ = _
                rw [← ply_next HG.out HX.out, HACT.out, actL_off HEX.out]
                dsimp only
                rw [HBQ.out]
                rfl
              case measure => simp [intOf]; omega
        · obtain rfl : ns = j := by omega
          have HTW1 := HTW.out
          have hg : g = plyG m 0 (s.map Int.toNat) (g0 m) := by have := HG.out; rw [List.take_of_length_le (by rw [LS.out]; omega)] at this; exact this
          rw [← hg] at HTW1
          have hwn : nw = g.w.length := by
            obtain ⟨_, _, he, _⟩ := own_form HP.out.words
            injection he
          obtain ⟨Ae, ce, he, hle, hre⟩ := HP.out.evs.post
          injection he with he1 he2 he3
          have hol : no ≤ 12000 := by
            have := (plyG_ok HOK.out (fun c hc => ⟨HOK.out.2.2.2.1 c hc, (HM.out.cok c hc).2⟩) (fun t ht c hc => ((HM.out.tok t ht).2 c hc).2.2) HM.out.wok ns _ (show ((s.take ns).map Int.toNat).length = ns by simp [LS.out])).out
            rw [← HG.out] at this
            omega
          have hRE : REv wr wr.heap.size Ao no g.out := by rw [he1, he2]; exact hre
          have hRW : RI wr wr.heap.size .i64 wA nw g.w := by rw [hwn]; exact Rd.of_own (by have := HP.out.words; rw [hwn] at this; exact this)
          have hwc : nw ≤ wc := by
            obtain ⟨_, _, he, hh⟩ := own_form HP.out.words
            injection he with _ e1 e2 <;> omega
          have hec : no ≤ co := by omega
          have HRE := Lib.hid hRE
          have HRW := Lib.hid hRW
          have HTW2 := Lib.hid HTW1
          clear hg hwn he1 he2 he3 hle hre hRE hRW HTW1
          go_wp2
          go_ret3
          refine ⟨Ao, no, co, wA, nw, wc, rfl, ?_, ?_, hec, hwc, hol, hnw, hbw⟩
          · rw [HTW2.out.1]; exact HRE.out
          · rw [HTW2.out.2]; exact HRW.out
end Go.Proofs.YtjihopbapnfppaaDoor
