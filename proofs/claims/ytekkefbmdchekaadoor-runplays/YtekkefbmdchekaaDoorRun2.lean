/- What run.Play does. No statement of the seat is proved here; no condition. -/
import Derived.Test.YtekkefbmdchekaaDoorRun2C
import Derived.Test.YtekkefbmdchekaaDoorRunMem2
set_option linter.unusedSimpArgs false
set_option linter.unusedVariables false
namespace Go.Proofs.YtekkefbmdchekaaDoor
open Go.RowKit Go.Ord Go.Baro

theorem eltThread : Elt Tryd.prog 84 86 (.agg #[Value.slice none 0 0, .int .i64 0, .int .i64 0, .int .i64 0, .int .i64 0, .int .i64 0, .int .i64 0, .int .i64 0, .int .i64 0, .int .i64 0, .int .i64 0, .int .i64 0, .int .i64 0, .int .i64 0, .int .i64 0, .int .i64 0, .int .i64 0, .int .i64 0, .int .i64 0, .int .i64 0, .int .i64 0, .int .i64 0, .int .i64 0, .int .i64 0, .int .i64 0, .int .i64 0, .slice none 0 0, .int .i64 0, .slice none 0 0, .int .i64 0]) 30 288 := Elt.mk' Tryd.underlying84 (by kernel_rfl) rfl (by decide)
theorem thR_arr (i : Nat) (v : Value) : (thZ ++ [.int .i64 i, v, .int .i64 0]).toArray = #[Value.slice none 0 0, .int .i64 0, .int .i64 0, .int .i64 0, .int .i64 0, .int .i64 0, .int .i64 0, .int .i64 0, .int .i64 0, .int .i64 0, .int .i64 0, .int .i64 0, .int .i64 0, .int .i64 0, .int .i64 0, .int .i64 0, .int .i64 0, .int .i64 0, .int .i64 0, .int .i64 0, .int .i64 0, .int .i64 0, .int .i64 0, .int .i64 0, .int .i64 0, .int .i64 0, .slice none 0 0, .int .i64 i, v, .int .i64 0] := by
  have h := congrArg Array.toList thZ_arr
  simp only [List.toList_toArray] at h
  rw [h]; rfl
theorem actG_eq (m : Mc) (g : Gs) (st n : Nat) : actG m g st n = ⟨(actT m n (g.th n) g.w).w, putT g.th n ((actT m n (g.th n) g.w).th n), g.out ++ (actT m n (g.th n) g.w).out.map (inSt st)⟩ := by rw [actG_zero, actG_T]
theorem eP_mono {P P' : Nat → Prop} {w : World} {r : List Value} {x : Ev} (h : eP P w r x) (hP : ∀ b, b < w.heap.size → P b → P' b) : eP P' w r x := by
  obtain ⟨A, n, k, q1, q2, q3, q4, q5⟩ := h
  refine ⟨A, n, k, q1, q2, q3, q4, fun h0 b o hA => ?_⟩
  obtain ⟨b', o', hA', hb', _⟩ := Rd.at_ q4 h0
  rw [hA] at hA'
  injection hA' with hA'
  injection hA' with hA' _
  exact hP b (by omega) (q5 h0 b o hA)
theorem ply_nextC {m : Mc} {s : List Int} {j n : Nat} {g : Gs} (hg : g = plyG m 0 ((s.take j).map Int.toNat) (g0 m)) (hx : s[j]? = some (n : Int)) : actG m g j n = plyG m 0 ((s.take (j + 1)).map Int.toNat) (g0 m) := by
  have hj : j < s.length := (List.getElem?_eq_some_iff.1 hx).1
  rw [at_take hx, List.map_append, List.map_singleton, plyG_snoc, ← hg, Int.toNat_natCast]
  congr 1
  simp; omega

set_option maxRecDepth 100000 in
set_option maxHeartbeats 4000000 in
theorem run_Play : PlaySpec := by
  intro w hT Aw nw cw Ac nc cc At nt ct m As ns cs s T W E hm hs hn hR
  have LS := Lib.hid hs.len
  have HM := Lib.hid hm
  have HT := Lib.hid hT
  have LT := Lib.hid hm.ts.len
  have LC := Lib.hid hm.cs.len
  have LW := Lib.hid hm.ws.len
  have h0 : Below w.heap.size w w := Below.refl _ _
  have hA := h0.alloc (Nat.le_refl _) (Obj.cells #[.slice Aw nw cw, .slice Ac nc cc, .slice At nt ct] 45)
  have bX := Box.newAt w 45 [.slice Aw nw cw, .slice Ac nc cc, .slice At nt ct] w.heap.size rfl
  have HMA := Lib.hid (show InM (w.alloc (Obj.cells #[.slice Aw nw cw, .slice Ac nc cc, .slice At nt ct] 45)) Aw nw cw Ac nc cc At nt ct m from hm.below hA)
  have HTA := Lib.hid (hT.below hA hT.lt)
  have HSA := Lib.hid ((hs.below hA).more hA.size)
  clear hm hT
  by_cases hE : E = 0
  · have hgood : okMc m ∧ s.length ≤ 6000 ∧ (∀ x ∈ s, 0 ≤ x ∧ x < m.ts.length) ∧ T = (plyG m 0 (s.map Int.toNat) (g0 m)).out ∧ W = (plyG m 0 (s.map Int.toNat) (g0 m)).w := by
      rcases hR with ⟨_, _, _, h⟩ | ⟨_, _, _, _, h⟩ | ⟨_, _, _, _, _, h⟩ | ⟨h1, h2, h3, h4, h5, _⟩
      · rw [hE] at h; cases h
      · rw [hE] at h; cases h
      · rw [hE] at h; cases h
      · exact ⟨h1, h2, h3, h4, h5⟩
    obtain ⟨hok, hsl, hsx, rT, rW⟩ := hgood
    subst hE
    have HPC := Lib.hid (show PcR m s 0 from .inr (.inr (.inr ⟨hok, hsl, hsx, rfl⟩)))
    have HOK := Lib.hid hok
    have HTW := Lib.hid (And.intro rT rW)
    have hnt4 : nt ≤ 4 := by have := hok.2.2.1; rw [LT.out] at this; exact this
    have hnw : nw ≤ 200 := by have := hok.1; rw [LW.out] at this; exact this
    have hsl' : ns ≤ 6000 := by rw [← LS.out]; exact hsl
    have HSX := Lib.hid (show ∀ x ∈ s, 0 ≤ x ∧ x < (nt : Int) by rw [← LT.out]; exact hsx)
    clear hR hok hsl hsx rT rW
    obtain ⟨cls, HCLS⟩ : ∃ cls : Nat → Value, Hid (∀ b o i v, At = some ⟨b, o, none⟩ → w.cell? ⟨b, o + i, none⟩ = some v → cls i = v) :=
      ⟨fun i => match At with | some a => (w.cell? ⟨a.block, a.off + i, none⟩).getD (.bool false) | none => .bool false, by intro b o i v h1 h2; subst h1; show (w.cell? ⟨b, o + i, none⟩).getD _ = v; rw [h2]; rfl⟩
    go_enter Tryd.func28, Tryd.ntmps28
    go_wp2_with fail
    refine (run_check _ HTA.out Aw nw cw Ac nc cc At nt ct m As ns cs s 0 HMA.out HSA.out hn HPC.out).mono ?_
    rintro e w1 ⟨rfl, hb1⟩
    have bX1 := bX.below hb1 (by simp)
    have hb2 := hA.trans (hb1.mono (by simp))
    have hs1 : w.heap.size + 1 ≤ w1.heap.size := by have := hb1.size; simp at this; exact this
    have lX1 := bX1.lt
    have x0 : w1.cell? ⟨w.heap.size, 0, none⟩ = _ := bX1.cell 0
    have x1 : w1.cell? ⟨w.heap.size, 1, none⟩ = _ := bX1.cell 1
    have x2 : w1.cell? ⟨w.heap.size, 2, none⟩ = _ := bX1.cell 2
    simp only [List.getElem?_cons_zero, List.getElem?_cons_succ] at x0 x1 x2
    go_wp2_with (at_make; refine make_all eltThread w1 rfl _ _ rfl (w.heap.size + 1) _ _ _ _ nt rfl rfl rfl rfl (by omega) (by omega) hs1 ?_; intro w2 hown2 hbel2 hsz2 hg2; have hb12 := hbel2 w1 (Below.refl _ _); have bX2 := bX1.below hb12 (by omega); have lX2 := bX2.lt; have x2' : w2.cell? ⟨w.heap.size, 2, none⟩ = some (.slice At nt ct) := bX2.cell 2)
    obtain ⟨rows2, hr2a, hr2b, hr2c⟩ := rows_of 30 nt _ hown2.1
    have hbox2 := box_own hown2
    rw [← hr2a] at hbox2
    have HBX2 := Lib.hid hbox2
    have HR2B := Lib.hid hr2b
    have HR2C := Lib.hid hr2c
    clear hown2 hbel2 hg2 hr2a hr2b hr2c hbox2
    go_loopw [30] (fun i wr => ∃ (j : Nat) (rows : List (List Value)), j ≤ nt ∧ i = .int .i64 j ∧ Hid (Box wr w1.heap.size 86 rows.flatten) ∧ Hid (rows.length = nt) ∧ Hid (∀ r ∈ rows, r.length = 30) ∧ Hid (∀ i, i < j → rows[i]? = some (thZ ++ [.int .i64 i, cls i, .int .i64 0])) ∧ Below (w.heap.size + 1) w1 wr) (fun i _ => nt - (intOf i).toNat)
    case atStart => exact ⟨0, rows2, Nat.zero_le _, rfl, HBX2.out, HR2B.out, HR2C.out, by intro i hi; omega, hb12⟩
    case round =>
      clear x0 x1 x2 x2' lX2
      obtain ⟨j, rows, hj, rfl, HBX, HRB, HRC, HRI, hbel⟩ := hrel
      have bXr := bX1.below hbel (by omega)
      have lXr := bXr.lt
      have x0 : wr.cell? ⟨w.heap.size, 0, none⟩ = _ := bXr.cell 0
      have x1 : wr.cell? ⟨w.heap.size, 1, none⟩ = _ := bXr.cell 1
      have x2 : wr.cell? ⟨w.heap.size, 2, none⟩ = _ := bXr.cell 2
      simp only [List.getElem?_cons_zero, List.getElem?_cons_succ] at x0 x1 x2
      have hbw := hb2.trans (hbel.mono (by omega))
      have lB := HBX.out.lt
      by_cases hjm : j < nt
      · obtain ⟨b, o, A', n', k, t, rfl, hbB, hcell0, hlk, hrl, HXt, hmem⟩ := HM.out.ts.val hjm
        have hcell := (hbw.cell (p := ⟨b, o + j, none⟩) hbB).trans hcell0
        have HCV := Lib.hid (HCLS.out b o j _ rfl hcell0)
        have hjr : j < rows.length := by rw [HRB.out]; exact hjm
        have HOLD : Hid (rows[j]? = some rows[j]) := List.getElem?_eq_getElem hjr
        have lb : b < wr.heap.size := by omega
        obtain ⟨R, hRd⟩ : ∃ R, R = thZ ++ [.int .i64 j, .slice A' n' k, .int .i64 0] := ⟨_, rfl⟩
        have HRA := Lib.hid (show R.toArray = #[Value.slice none 0 0, .int .i64 0, .int .i64 0, .int .i64 0, .int .i64 0, .int .i64 0, .int .i64 0, .int .i64 0, .int .i64 0, .int .i64 0, .int .i64 0, .int .i64 0, .int .i64 0, .int .i64 0, .int .i64 0, .int .i64 0, .int .i64 0, .int .i64 0, .int .i64 0, .int .i64 0, .int .i64 0, .int .i64 0, .int .i64 0, .int .i64 0, .int .i64 0, .int .i64 0, .slice none 0 0, .int .i64 j, .slice A' n' k, .int .i64 0] by rw [hRd]; exact thR_arr _ _)
        have HRL := Lib.hid (show R.length = 30 by rw [hRd, List.length_append, show thZ.length = 27 from thC_len]; rfl)
        have HRO := Lib.hid (show ∀ v ∈ R, v.oneCell' = true by
          rw [hRd]
          intro v hv
          rcases List.mem_append.1 hv with hv | hv
          · exact thC_one rfl rfl v hv
          · simp at hv; rcases hv with rfl | rfl | rfl <;> rfl)
        have HRD := Lib.hid hRd
        have HIN := Lib.hid (show (Tryd.prog.info? 86).map (·.size) = some 30 by kernel_rfl)
        have HBM := Lib.hid (show Box wr w1.heap.size 86 ((rows.take j).flatten ++ (rows[j] ++ (rows.drop (j + 1)).flatten)) by rw [← flat_mid HOLD.out]; exact HBX.out)
        have HTL := Lib.hid (rtake_len HRC.out (i := j) (by omega))
        have HOL := Lib.hid (HRC.out rows[j] (List.getElem_mem hjr))
        clear hcell0 hRd hmem
        go_wp2_with (refine store_mid rfl rfl 86 (.tmp 40) (.tmp 39) rfl w1.heap.size (j * 30) R rfl (congrArg Value.agg HRA.out.symm) 86 (rows.take j).flatten rows[j] (rows.drop (j + 1)).flatten HBM.out HTL.out (by rw [HOL.out, HRL.out]) (by rw [HRL.out]; exact HIN.out) HRO.out ?_; intro w3 HG3 hg3)
        go_roundw
        case rel =>
          refine ⟨j + 1, rows.set j R, by omega, by go_num, ?_, ?_, ?_, ?_, below_set hbel hg3 (by omega) (by omega)⟩
          · show Box _ _ _ _
            rw [flat_set hjr]; exact HG3.out
          · show _ = _
            rw [List.length_set]; exact HRB.out
          · intro r hr
            rcases List.mem_or_eq_of_mem_set hr with hr | hr
            · exact HRC.out r hr
            · rw [hr]; exact HRL.out
          · intro i hi
            by_cases hij : i = j
            · subst hij
              rw [List.getElem?_set_self hjr, HRD.out, HCV.out]
            · rw [List.getElem?_set_ne (by omega)]; exact HRI.out i (by omega)
        case measure => simp [intOf]; omega
      · obtain rfl : nt = j := by omega
        have hszr := hbel.size
        go_wp2_with fail
        refine (slices_CloneI m.ws Aw nw cw w.heap.size wr (HM.out.ws.below hbw) (by omega) hnw).mono ?_
        rintro e w4 ⟨wv, rfl, hown4, hb4⟩
        obtain ⟨wA, wc, rfl, _⟩ := own_form hown4
        have hb14 : Below (w.heap.size + 1) w1 w4 := hbel.trans (hb4.mono (by omega))
        have HP0 := Lib.hid (Pm.init (m := m) (cls := cls) (nt := nt) (tb := w1.heap.size) (B := w.heap.size + 1) (by rw [LW.out]; exact own_low hown4 (by omega)) (HBX.out.below hb4 lB) (fun h => by have := (hown4.lt _ h).1; omega) HRB.out (fun i r hr => by
          have hi : i < rows.length := (List.getElem?_eq_some_iff.1 hr).1
          rw [HRI.out i (by rw [← HRB.out]; exact hi)] at hr
          injection hr with hr
          exact hr.symm) hs1)
        clear x0 x1 x2 lXr bXr HBX hown4 lB hbw
        go_wp2
        go_loopw [12, 47] (fun ov i wr => ∃ (j : Nat) (own : Nat → Nat) (rows : List (List Value)) (g : Gs), j ≤ ns ∧ i = .int .i64 j ∧ Hid (g = plyG m 0 ((s.take j).map Int.toNat) (g0 m)) ∧ Hid (Pm own wr (w.heap.size + 1) w1.heap.size nt (.slice wA nw wc) ov cls rows g) ∧ Below (w.heap.size + 1) w1 wr ∧ ∃ A n c, ov = .slice A n c) (fun _ i _ => ns - (intOf i).toNat)
        case atStart => exact ⟨0, _, _, _, Nat.zero_le _, rfl, rfl, HP0.out, hb14, _, _, _, rfl⟩
        case round =>
          clear HRB HRC HRI hbel hszr
          obtain ⟨j, own, rows, g, hj, rfl, HG, HP, hbel, Ao, no, co, rfl⟩ := hrel
          have hbw := hb2.trans (hbel.mono (by omega))
          have bXr := bX1.below hbel (by omega)
          have lXr := bXr.lt
          have x1 : wr.cell? ⟨w.heap.size, 1, none⟩ = _ := bXr.cell 1
          simp only [List.getElem?_cons_zero, List.getElem?_cons_succ] at x1
          have hszr := hbel.size
          have hGO : GOk m j g := by
            rw [HG.out]
            exact plyG_ok HOK.out (fun c hc => ⟨HOK.out.2.2.2.1 c hc, (HM.out.cok c hc).2⟩) (fun t ht c hc => ((HM.out.tok t ht).2 c hc).2.2) HM.out.wok j _ (by simp [LS.out]; omega)
          have HGO := Lib.hid hGO
          clear hGO
          by_cases hjm : j < ns
          · obtain ⟨b0, o0, x, rfl, hbB0, hcell0, HX, hmem⟩ := (hs.below hbw).val hjm
            obtain ⟨n, rfl⟩ : ∃ n : Nat, x = n := ⟨x.toNat, by have := HSX.out x hmem; omega⟩
            have hn' : n < nt := by have := HSX.out _ hmem; omega
            clear hmem
            obtain ⟨bt, ot, A1, n1, k1, t, rfl, hbt, hct0, hlk, hrl, HXt, hmt⟩ := HM.out.ts.val hn'
            have HCV := Lib.hid (HCLS.out bt ot n _ rfl hct0)
            have HRLS := Lib.hid (RLs.below hrl hbw.drew)
            have HTOK := Lib.hid (fun c hc => ((HM.out.tok t hmt).2 c hc).2.2)
            have HLEN := Lib.hid hrl.len
            have HPD := Lib.hid HP.out.drew
            obtain ⟨row, cA, cn, tv, hrow, hTl, htv, hcA⟩ := HPD.out.at_ hn'
            rw [HCV.out] at hTl
            have HTl := Lib.hid hTl
            have HTV := Lib.hid htv
            have HCA := Lib.hid hcA
            have HBG : Hid ((g.th n).bg ≤ n1) := by
              have := HGO.out.bg n
              rw [HXt.out, Option.getD_some, HLEN.out] at this
              exact this
            clear hct0 hrl hmt hrow hTl htv hcA
            go_wp2
            refine region_first [0, 1, 2, 3, 4, 5, 8] (.cons 6 (seq [7] .nil)) (by kernel_rfl) (by kernel_rfl) ?_
            simp only [pick, List.map_cons, List.map_nil, List.getD_cons_zero, List.getD_cons_succ]
            go_wp2
            refine ord_fin (by kernel_rfl) ?_
            simp only [pick, List.map_cons, List.map_nil, List.getD_cons_zero, List.getD_cons_succ]
            go_wp2_with fail
            refine (run_perform wr.drew (HT.out.below hbw.drew HT.out.lt) m (w.heap.size + 1) w1.heap.size (n * 30) n _ _ A1 n1 k1 w.heap.size t Ac nc cc wA nw wc g.w (g.th n) cA cn tv HTl.out (by show _ ≤ wr.heap.size; omega) (by show _ ≤ wr.heap.size; omega) HOK.out (RCs.below HM.out.cs hbw.drew) HRLS.out HXt.out (fun c hc => (HM.out.cok c hc).2) HTOK.out HGO.out.w HBG.out (fun l hl => by
              obtain ⟨h1, h2, h3⟩ := HGO.out.th n l hl
              exact ⟨h1, h2, h3, HGO.out.ps n l hl⟩)).mono ?_
            rintro e w5 ⟨A5, k5, c5, M, cA', cn', tv', rowsE, rfl, hTl', hk5, hk52, hrE1, hrE2, hrE3, hrE4, hM, hcA', htv', hA5, hu5⟩
            rw [← HCV.out] at hTl'
            obtain ⟨own5, rows5, hP5, h5a, h5b⟩ := HPD.out.one hn' HTV.out HCA.out hTl' hM hcA' htv' hu5
            obtain ⟨aT, haT⟩ : ∃ aT, aT = actT m n (g.th n) g.w := ⟨_, rfl⟩
            rw [← haT] at hP5 hk5 hrE4
            have hbel5 : Below (w.heap.size + 1) w1 w5 := hbel.drew.trans (hu5.below (by show _ ≤ wr.heap.size; omega) fun k hk ht => by
              rcases ht with rfl | rfl | ht | ht
              · omega
              · omega
              · have := (HTV.out k ht.symm).2.1; omega
              · have := (HP.out.words.lt k ht.symm).1; omega)
            have HP5 := Lib.hid (show Pm own5 w5 (w.heap.size + 1) w1.heap.size nt (.slice wA nw wc) (.slice Ao no co) cls rows5 ⟨aT.w, putT g.th n (aT.th n), g.out ++ (aT.out.take 0).map (inSt j)⟩ by simpa using hP5)
            have HK5 := Lib.hid hk5
            have HE1 := Lib.hid hrE1
            have HE2 := Lib.hid hrE2
            have HE3 := Lib.hid hrE3
            have HE4 := Lib.hid (show ∀ (i : Nat) r x, rowsE[i]? = some r → aT.out[i]? = some x → eP (fun b => own5 b = 5) w5 r x from fun i r x hr hx => eP_mono (hrE4 i r x hr hx) (fun b _ hb => h5a b hb))
            have HE5 := Lib.hid (show 0 < k5 → ∀ g q, A5 = some ⟨g, q, none⟩ → own5 g ≠ 4 from fun h0 g q hg => h5b g (hA5 h0 g q hg))
            have HAT := Lib.hid haT
            clear hP5 hk5 hrE1 hrE2 hrE3 hrE4 hTl' hcA' htv' hA5 h5a h5b haT
            go_wp2
            refine ord_more [7] .nil (by kernel_rfl) ?_
            simp only [pick, List.map_cons, List.map_nil, List.getD_cons_zero, List.getD_cons_succ]
            go_wp2
            refine ord_done ?_
            go_wp2
            go_loopw [12, 60] (fun ov i wr => ∃ (q : Nat) (own : Nat → Nat), q ≤ k5 ∧ i = .int .i64 q ∧ Hid (Pm own wr (w.heap.size + 1) w1.heap.size nt (.slice wA nw wc) ov cls rows5 ⟨aT.w, putT g.th n (aT.th n), g.out ++ (aT.out.take q).map (inSt j)⟩) ∧ Hid (Rd wr wr.heap.size 6 A5 k5 rowsE.flatten) ∧ Hid (∀ (i : Nat) r x, rowsE[i]? = some r → aT.out[i]? = some x → eP (fun b => own b = 5) wr r x) ∧ Hid (0 < k5 → ∀ g q, A5 = some ⟨g, q, none⟩ → own g ≠ 4) ∧ Below (w.heap.size + 1) w1 wr ∧ ∃ A n c, ov = .slice A n c) (fun _ i _ => k5 - (intOf i).toNat)
            case atStart => exact ⟨0, own5, Nat.zero_le _, rfl, HP5.out, HE3.out, HE4.out, HE5.out, hbel5, _, _, _, rfl⟩
            case round =>
              clear hszr bXr lXr x1 hbw
              obtain ⟨q, own, hq, rfl, HPq, HRq, HEq, HTq, hbelq, Aq, nq, cq, rfl⟩ := hrel
              by_cases hqk : q < k5
              · have hq1 : q < rowsE.length := by rw [HE1.out]; exact hqk
                have hq2 : q < aT.out.length := by rw [← HK5.out]; exact hqk
                obtain ⟨r, hr⟩ : ∃ r, rowsE[q]? = some r := ⟨_, List.getElem?_eq_getElem hq1⟩
                obtain ⟨x, hx⟩ : ∃ x, aT.out[q]? = some x := ⟨_, List.getElem?_eq_getElem hq2⟩
                obtain ⟨Ax, nx, kx, rfl, hx1, hx2, hx3, hx4⟩ := HEq.out q r x hr hx
                obtain ⟨eb, eo, hA5e, hebl, hcl⟩ := Rd.at_ HRq.out (by omega)
                subst hA5e
                have d : ∀ i, i < 6 → wr.cell? ⟨eb, eo + q * 6 + i, none⟩ = (evC x (.slice Ax nx kx))[i]? := fun i hi => by
                  rw [Nat.add_assoc, hcl (q * 6 + i) (by omega)]; exact flatten_at rowsE q i _ HE2.out hr hi
                obtain ⟨xs, xt, xc, xe, xr, xto⟩ := x
                have d0 : wr.cell? ⟨eb, eo + q * 6, none⟩ = some (.int .i64 xs) := d 0 (by omega)
                have d1 : wr.cell? ⟨eb, eo + q * 6 + 1, none⟩ = some (.int .i64 xt) := d 1 (by omega)
                have d2 : wr.cell? ⟨eb, eo + q * 6 + 2, none⟩ = some (.int .i64 xc) := d 2 (by omega)
                have d3 : wr.cell? ⟨eb, eo + q * 6 + 3, none⟩ = some (.bool xe) := d 3 (by omega)
                have d4 : wr.cell? ⟨eb, eo + q * 6 + 4, none⟩ = some (.int .i64 xr) := d 4 (by omega)
                have d5 : wr.cell? ⟨eb, eo + q * 6 + 5, none⟩ = some (.slice Ax nx kx) := d 5 (by omega)
                obtain ⟨rws, r1, r2, r3, r4⟩ := HPq.out.evs
                have hnq : nq = (g.out ++ (aT.out.take q).map (inSt j)).length := by
                  obtain ⟨_, _, he, _⟩ := own_form r3
                  injection he
                have hnqb : nq ≤ 20000 := by
                  have := HGO.out.out
                  rw [hnq, List.length_append, List.length_map, List.length_take]
                  omega
                have HHR := Lib.hid hr
                have HHX := Lib.hid hx
                have HX3 := Lib.hid hx3
                have HX4 := Lib.hid hx4
                have HR1 := Lib.hid r1
                have HR2 := Lib.hid r2
                have HR3 := Lib.hid r3
                have HR3' := Lib.hid (show wr.ownsRow (w.heap.size + 1) 51 6 (.slice Aq nq cq) nq rws.flatten by rw [← hnq] at r3; exact r3)
                have HR4 := Lib.hid r4
                have HNQ := Lib.hid hnq
                clear hr hx hx3 hx4 r1 r2 r3 r4 hnq d hcl hq1 hq2
                have hszq : w.heap.size + 1 ≤ wr.heap.size := HPq.out.hB
                have HU1 : Hid (Un (fun _ => False) wr (wr.alloc (Obj.cells #[.int .i64 j, .int .i64 xt, .int .i64 xc, .bool xe, .int .i64 xr, .slice Ax nx kx] 51))) := (Un.refl _ _).alloc _
                have HEV : Hid (eP (fun b => own b = 5) (wr.alloc (Obj.cells #[.int .i64 j, .int .i64 xt, .int .i64 xc, .bool xe, .int .i64 xr, .slice Ax nx kx] 51)) [.int .i64 j, .int .i64 xt, .int .i64 xc, .bool xe, .int .i64 xr, .slice Ax nx kx] (inSt j ⟨xs, xt, xc, xe, xr, xto⟩)) :=
                  ⟨Ax, nx, kx, rfl, hx1, hx2, Rd.more (Rd.un HX3.out HU1.out (Nat.le_refl _) (fun _ _ _ _ h => h)) HU1.out.size, HX4.out⟩
                go_wp2_with (at_builtin; go_must (refine app_litB eltEvR (wr.alloc (Obj.cells #[.int .i64 j, .int .i64 xt, .int .i64 xc, .bool xe, .int .i64 xr, .slice Ax nx kx] 51)) rfl _ _ rfl (w.heap.size + 1) (.slice Aq nq cq) nq rws.flatten rfl (HR3'.out.alloc _) 1 [.int .i64 j, .int .i64 xt, .int .i64 xc, .bool xe, .int .i64 xr, .slice Ax nx kx] (wr.heap.size + 1) (by simp) rfl rfl (one6R _ _ _ _ _ _ _ _) (by omega) (by omega) (by simp; omega) ?_); intro v6 w6 hown6 hg6 hblk6; have HP6 := Lib.hid ((HPq.out.alloc (Obj.cells #[.int .i64 j, .int .i64 xt, .int .i64 xc, .bool xe, .int .i64 xr, .slice Ax nx kx] 51)).event HR1.out HR2.out (HR3.out.alloc _) (fun i r x hr hx => (HR4.out i r x hr hx).un HU1.out (fun _ _ h => h)) hown6 (by rw [HNQ.out]) hg6 hblk6 HEV.out); have HG6 := Lib.hid hg6; obtain ⟨A6, c6, rfl, _⟩ := own_form hown6; clear hown6 hg6 hblk6)
                go_roundw
                case rel =>
                  have hu6 : Un (fun k => some k = (Value.slice Aq nq cq).ownBlock) wr w6 := un_grown (((Un.refl _ wr).alloc _).alloc _) HG6.out (fun k hk => hk.symm)
                  have hb6 : Below (w.heap.size + 1) w1 w6 := ((hbelq.alloc hszq _).alloc (by simp; omega) _).grown HG6.out (by simp; omega) (fun k hk => (HR3'.out.lt k hk).1)
                  have hto := HPq.out.to
                  refine ⟨q + 1, fun k => if k < (wr.alloc (Obj.cells #[.int .i64 j, .int .i64 xt, .int .i64 xc, .bool xe, .int .i64 xr, .slice Ax nx kx] 51)).heap.size then own k else 4, by omega, by go_num, ?_, ?_, ?_, ?_, hb6, _, _, _, rfl⟩
                  · show Pm _ _ _ _ _ _ _ _ _ _
                    have := HP6.out
                    rw [at_take HHX.out, List.map_append, List.map_singleton, ← List.append_assoc]
                    exact this
                  · exact Rd.more (Rd.un HRq.out hu6 (Nat.le_refl _) (fun h0 b o hA he => HTq.out h0 b o hA (hto b he.symm))) hu6.size
                  · intro i r x hr hx
                    have e1 := eP_mono (P' := fun b => own b = 5 ∧ b < wr.heap.size) (HEq.out i r x hr hx) (fun b hb h5 => ⟨h5, hb⟩)
                    refine eP_mono (e1.un hu6 (fun b hb he => by have := hto b he.symm; omega)) (fun b _ hb => ?_)
                    show (if b < (wr.alloc _).heap.size then own b else 4) = 5
                    rw [if_pos (by simp; omega)]
                    exact hb.1
                  · intro h0 b o hA
                    injection hA with hA
                    injection hA with hA _
                    show (if b < (wr.alloc _).heap.size then own b else 4) ≠ 4
                    rw [if_pos (by simp; omega)]
                    exact HTq.out h0 b eo (by rw [hA])
                case measure => simp [intOf]; omega
              · obtain rfl : k5 = q := by omega
                go_wp2
                go_roundw
                case rel =>
                  refine ⟨j + 1, own, rows5, actG m g j n, by omega, by go_num, ?_, ?_, hbelq, _, _, _, rfl⟩
                  · show _ = _
                    rw [← ply_nextC HG.out HX.out]
                  · have := HPq.out
                    rw [List.take_of_length_le (by rw [← HK5.out]; exact Nat.le_refl _)] at this
                    rw [actG_eq, ← HAT.out]
                    exact this
                case measure => simp [intOf]; omega
          · obtain rfl : ns = j := by omega
            go_wp2
            go_ret3
            have HG2 := HG.out
            rw [List.take_of_length_le (by rw [LS.out]; omega)] at HG2
            obtain ⟨A9, c9, he9, hlc9, hrev⟩ := HP.out.evs.post
            obtain ⟨A8, c8, he8, hlc8⟩ := own_form HP.out.words
            injection he9 with e1 e2 e3
            injection he8 with e4 e5 e6
            subst e1 e3 e4 e6
            have hri := Rd.of_own (A := wA) (n := g.w.length) (c := wc) (by have := HP.out.words; rw [e5] at this; exact this)
            refine ⟨Ao, no, co, wA, nw, wc, rfl, ?_, ?_, by rw [e2]; exact hlc9, by rw [e5]; exact hlc8, ?_, hnw, hbw⟩
            · rw [e2, HTW.out.1, ← HG2]; exact hrev
            · rw [e5, HTW.out.2, ← HG2]; exact hri
            · have := HGO.out.out; rw [e2]; omega
  · have hpc : PcR m s E ∧ T = [] ∧ W = [] := by
      rcases hR with ⟨h1, h2, h3, h4⟩ | ⟨h1, h2, h3, h4, h5⟩ | ⟨h1, h2, h3, h4, h5, h6⟩ | ⟨_, _, _, _, _, h6⟩
      · exact ⟨.inl ⟨h1, h4⟩, h2, h3⟩
      · exact ⟨.inr (.inl ⟨h1, h2, h5⟩), h3, h4⟩
      · exact ⟨.inr (.inr (.inl ⟨h1, h2, h3, h6⟩)), h4, h5⟩
      · exact absurd h6 hE
    obtain ⟨hpc, rfl, rfl⟩ := hpc
    have HPC := Lib.hid hpc
    have hv : (E != 0) = true := by simp [hE]
    clear hpc hR hE
    go_enter Tryd.func28, Tryd.ntmps28
    go_wp2_with fail
    refine (run_check _ HTA.out Aw nw cw Ac nc cc At nt ct m As ns cs s E HMA.out HSA.out hn HPC.out).mono ?_
    rintro e w1 ⟨rfl, hb1⟩
    go_wp2
    go_ret3
    exact ⟨none, 0, 0, none, 0, 0, rfl, REv.nil _ _, RI.nil _ _ _ _, Nat.le_refl _, Nat.le_refl _, by omega, by omega, hA.trans (hb1.mono (by simp))⟩
end Go.Proofs.YtekkefbmdchekaaDoor
