/- Could acts be one behind the other, as the statements ask it. No statement of the seat is proved here; no condition. -/
import Derived.Test.YtnchgdjdfhfedaaDoorPartAN
set_option linter.unusedSimpArgs false
set_option linter.unusedVariables false
namespace Go.Baro
open Go.RowKit
theorem tl_tel {k : Int} {has : List Int} (h : okH k has) {x : Ac} (hx : k = 2 → x.put = false → x.add = 0) {z : Int} (hz : z = if k = 2 then x.add else x.v) : (tl k has x.put z).1 = (tel k has x).1 ∧ (tl k has x.put z).2.2 = (tel k has x).2 := by
  subst hz
  unfold tl tel
  by_cases h1 : k = 1
  · have h2 : ¬ k = 2 := by omega
    simp only [if_neg h2, if_pos h1]
    split <;> exact ⟨rfl, rfl⟩
  rw [if_neg h1, if_neg h1]
  by_cases h2 : k = 2
  · rw [if_pos h2, if_pos h2, if_pos h2]
    cases hp : x.put with
    | true => exact ⟨rfl, rfl⟩
    | false =>
      obtain ⟨y, hy, hw⟩ := h h2
      rw [hx h2 hp, hy]
      refine ⟨rfl, ?_⟩
      show [y] = [wrap64 (y + 0)]
      rw [Int.add_zero, hw]
  rw [if_neg h2, if_neg h2, if_neg h2]
  split
  · exact ⟨rfl, rfl⟩
  · split
    · exact ⟨rfl, rfl⟩
    · split <;> exact ⟨rfl, rfl⟩
theorem okH_tel {k : Int} {has : List Int} (a : Ac) : okH k (tel k has a).2 := by
  intro h2
  subst h2
  exact ⟨_, rfl, wrap_twice _⟩
end Go.Baro
namespace Go.Proofs.YtnchgdjdfhfedaaDoor
open Go.RowKit Go.Ord Go.Baro

set_option maxRecDepth 100000 in
set_option maxHeartbeats 4000000 in
theorem keep_Linear (N : Nat) : ∀ (w : World) (k : Int) (hA : Option Addr) (hn hc : Nat) (has : List Int) (A : Option Addr) (n c : Nat) (left : List Ac) (r : Bool) (hN : n = N) (hs : hn + n ≤ 100) (hnc : hn ≤ hc) (hlc : n ≤ c) (hk : 1 ≤ k ∧ k ≤ 4) (h1 : k < 3 → hn = 1)
    (hO : okH k has) (hP : ∀ a ∈ left, k = 2 → a.put = false → a.add = 0) (h : RI w w.heap.size .i64 hA hn has) (hl : RA w w.heap.size A n left) (hr : r = true ↔ Lin k has left),
    Calls Tryd.prog 16 #[.int .i64 k, .slice hA hn hc, .slice A n c] w fun e w' => e = .returned (.bool r) ∧ Below w.heap.size w w' := by
  induction N using Nat.strongRecOn with
  | _ N IH =>
    intro w k hA hn hc has A n c left r hN hs hnc hlc hk h1 hO hP h hl hr
    have HIH := Lib.hid IH
    have HR := Lib.hid hr
    have HN := Lib.hid hN
    have HL := Lib.hid hl.len
    have HH := Lib.hid h.len
    have HO := Lib.hid hO
    have HP := Lib.hid hP
    have h0 := Below.refl w.heap.size w
    clear IH hr hN hO hP
    go_enter Tryd.func16, Tryd.ntmps16
    go_wp2
    go_loopw [7, 8] (fun mu i wr => ∃ (j : Nat) (b : Bool), j ≤ n ∧ i = .int .i64 j ∧ mu = .bool b ∧ Hid (b = true ↔ ∃ a ∈ left.take j, a.e ≠ -1) ∧ Below w.heap.size w wr) (fun _ i _ => n - (intOf i).toNat)
    case atStart => exact ⟨0, false, Nat.zero_le _, rfl, rfl, by show _ ↔ _; simp, h0⟩
    case round =>
      obtain ⟨j, b, hj, rfl, rfl, HB, hbel⟩ := hrel
      have hsz := hbel.size
      by_cases hjm : j < n
      · obtain ⟨bb, o, x, rfl, hbB, d0, d1, d2, d3, d4, HX, hmem⟩ := (hl.below hbel).val hjm
        obtain ⟨xb, xe, xp, xv, xa⟩ := x
        dsimp only at d0 d1 d2 d3 d4
        have lb : bb < wr.heap.size := by omega
        clear hmem
        cases b with
        | true =>
          go_wp2
          go_roundw
          case rel =>
            refine ⟨j + 1, true, by omega, by go_num, rfl, ?_, hbel⟩
            show _ ↔ _
            rw [at_take HX.out]
            obtain ⟨a, ha, hae⟩ := HB.out.1 (by first | rfl | trivial)
            simp only [true_iff]
            exact ⟨a, List.mem_append.2 (.inl ha), hae⟩
          case measure => simp [intOf]; omega
        | false =>
          have hno : ∀ a ∈ left.take j, a.e = -1 := fun a ha => by
            by_cases he : a.e = -1
            · exact he
            · have := HB.out.2 ⟨a, ha, he⟩; cases this
          have HNO := Lib.hid hno
          clear hno
          by_cases he : xe = -1
          · subst he
            go_wp2
            go_roundw
            case rel =>
              refine ⟨j + 1, false, by omega, by go_num, rfl, ?_, hbel⟩
              show _ ↔ _
              rw [at_take HX.out]
              simp only [Bool.false_eq_true, false_iff]
              rintro ⟨a, ha, hae⟩
              rcases List.mem_append.1 ha with ha | ha
              · exact hae (HNO.out a ha)
              · rw [List.mem_singleton.1 ha] at hae; exact hae rfl
            case measure => simp [intOf]; omega
          · have he2 : (xe != -1) = true := by simp [he]
            have HE := Lib.hid he
            clear he
            go_wp2
            go_roundw
            case rel =>
              refine ⟨j + 1, true, by omega, by go_num, rfl, ?_, hbel⟩
              show _ ↔ _
              rw [at_take HX.out]
              simp only [true_iff]
              exact ⟨_, List.mem_append.2 (.inr (List.mem_singleton.2 rfl)), HE.out⟩
            case measure => simp [intOf]; omega
      · obtain rfl : n = j := by omega
        have HB2 := HB.out
        rw [List.take_of_length_le (by rw [HL.out]; omega)] at HB2
        have HB := Lib.hid HB2
        clear HB2
        cases b with
        | false =>
          go_wp2
          go_ret
          refine ⟨ret_bool ?_, hbel⟩
          refine (HR.out.2 (lin_cand.2 (.inl fun a ha => ?_))).symm
          by_cases he : a.e = -1
          · exact he
          · have := HB.out.2 ⟨a, ha, he⟩; simp at this
        | true =>
          have HNA : Hid (¬ ∀ a ∈ left, a.e = -1) := fun hall => by
            obtain ⟨a, ha, hae⟩ := HB.out.1 (by first | rfl | trivial)
            exact hae (hall a ha)
          go_wp2
          go_loopw [9] (fun i wr => ∃ j : Nat, j ≤ n ∧ i = .int .i64 j ∧ Hid (∀ p, p < j → ¬ cand k has left p) ∧ Below w.heap.size w wr) (fun i _ => n - (intOf i).toNat)
          case atStart => exact ⟨0, Nat.zero_le _, rfl, by intro p hp; omega, hbel⟩
          case round =>
            clear hsz hbel
            obtain ⟨j, hj, rfl, HC, hbel⟩ := hrel
            have hsz := hbel.size
            by_cases hjm : j < n
            · obtain ⟨bb, o, x, rfl, hbB, d0, d1, d2, d3, d4, HX, hmem⟩ := (hl.below hbel).val hjm
              have hpx := HP.out x hmem
              obtain ⟨xb, xe, xp, xv, xa⟩ := x
              have HPX := Lib.hid hpx
              dsimp only at d0 d1 d2 d3 d4
              have lb : bb < wr.heap.size := by omega
              have hba := hbel.alloc hsz (Obj.cells #[.int .i64 xb, .int .i64 xe, .bool xp, .int .i64 xv, .int .i64 xa] 46)
              have bX := Box.newAt wr 46 [.int .i64 xb, .int .i64 xe, .bool xp, .int .i64 xv, .int .i64 xa] wr.heap.size rfl
              clear hmem hpx
              obtain ⟨wo, rfl⟩ : ∃ wo, wo = wr := ⟨wr, rfl⟩
              go_wp2
              go_loopw [11, 12] (fun fl i wr => ∃ (q : Nat) (b : Bool), q ≤ n ∧ i = .int .i64 q ∧ fl = .bool b ∧ Hid (b = true ↔ ∀ y ∈ left.take q, y.e ≠ -1 → xb ≤ y.e) ∧ Box wr wo.heap.size 46 [.int .i64 xb, .int .i64 xe, .bool xp, .int .i64 xv, .int .i64 xa] ∧ Below w.heap.size w wr) (fun _ i _ => n - (intOf i).toNat)
              case atStart => exact ⟨0, true, Nat.zero_le _, rfl, rfl, by show _ ↔ _; simp, bX, hba⟩
              case round =>
                clear bX hba
                obtain ⟨q, b, hq, rfl, rfl, HF, bX, hbelq⟩ := hrel
                have hszq := hbelq.size
                have lX := bX.lt
                have z0 : wr.cell? ⟨wo.heap.size, 0, none⟩ = some (.int .i64 xb) := bX.cell 0
                by_cases hqm : q < n
                · obtain ⟨bb', o', y, he', hbB', e0, e1, e2, e3, e4, HY, hmem⟩ := (hl.below hbelq).val hqm
                  injection he' with he'
                  injection he' with he1 he2
                  subst he1 he2
                  obtain ⟨yb, ye, yp, yv, ya⟩ := y
                  dsimp only at e0 e1 e2 e3 e4
                  have lb' : bb < wr.heap.size := by omega
                  have hbay := hbelq.drew
                  have bXy := bX.below (Below.refl _ _).drew lX
                  clear hmem
                  cases b with
                  | false =>
                    go_wp2
                    refine region_first [0, 1, 2, 3, 4, 5, 6, 7, 8, 9, 10, 11, 12, 13, 14, 15, 16, 17, 18, 19, 20] .nil (by kernel_rfl) (by kernel_rfl) ?_
                    simp only [pick, List.map_cons, List.map_nil, List.getD_cons_zero, List.getD_cons_succ]
                    go_wp2
                    refine ord_done ?_
                    go_wp2
                    go_roundw
                    case rel =>
                      refine ⟨q + 1, false, by omega, by go_num, rfl, ?_, bXy, hbay⟩
                      show _ ↔ _
                      rw [at_take HY.out]
                    
                      simp only [Bool.false_eq_true, false_iff]
                      intro hh
                      have := HF.out.2 (fun y hy => hh y (List.mem_append.2 (.inl hy)))
                      cases this
                    case measure => simp [intOf]; omega
                  | true =>
                    have HFT : Hid (∀ y ∈ left.take q, y.e ≠ -1 → xb ≤ y.e) := HF.out.1 (by first | rfl | trivial)
                    by_cases he : ye = -1
                    · subst he
                      go_wp2
                      refine region_first [0, 1, 2, 3, 4, 5, 6, 7, 8, 9, 10, 11, 12, 13, 14, 15, 16, 17, 18, 19, 20] .nil (by kernel_rfl) (by kernel_rfl) ?_
                      simp only [pick, List.map_cons, List.map_nil, List.getD_cons_zero, List.getD_cons_succ]
                      go_wp2
                      refine ord_done ?_
                      go_wp2
                      go_roundw
                      case rel =>
                        refine ⟨q + 1, true, by omega, by go_num, rfl, ?_, bXy, hbay⟩
                        show _ ↔ _
                        rw [at_take HY.out]
                      
                        simp only [true_iff]
                        intro y hy hye
                        rcases List.mem_append.1 hy with hy | hy
                        · exact HFT.out y hy hye
                        · rw [List.mem_singleton.1 hy] at hye; exact absurd rfl hye
                      case measure => simp [intOf]; omega
                    · have he2 : (ye != -1) = true := by simp [he]
                      have HE := Lib.hid he
                      clear he
                      by_cases hlt : ye < xb
                      · skip
                        go_wp2
                        refine region_first [0, 1, 2, 3, 4, 5, 6, 7, 8, 9, 10, 11, 12, 13, 14, 15, 16, 17, 18, 19, 20] .nil (by kernel_rfl) (by kernel_rfl) ?_
                        simp only [pick, List.map_cons, List.map_nil, List.getD_cons_zero, List.getD_cons_succ]
                        go_wp2
                        refine ord_done ?_
                        go_wp2
                        go_roundw
                        case rel =>
                          refine ⟨q + 1, false, by omega, by go_num, rfl, ?_, bXy, hbay⟩
                          show _ ↔ _
                          rw [at_take HY.out]
                        
                          simp only [Bool.false_eq_true, false_iff]
                          intro hh
                          have := hh _ (List.mem_append.2 (.inr (List.mem_singleton.2 rfl))) HE.out
                          dsimp only at this
                          omega
                        case measure => simp [intOf]; omega
                      · have hlt2 : decide (ye < xb) = false := by simp; omega
                        go_wp2
                        refine region_first [0, 1, 2, 3, 4, 5, 6, 7, 8, 9, 10, 11, 12, 13, 14, 15, 16, 17, 18, 19, 20] .nil (by kernel_rfl) (by kernel_rfl) ?_
                        simp only [pick, List.map_cons, List.map_nil, List.getD_cons_zero, List.getD_cons_succ]
                        go_wp2
                        refine ord_done ?_
                        go_wp2
                        go_roundw
                        case rel =>
                          refine ⟨q + 1, true, by omega, by go_num, rfl, ?_, bXy, hbay⟩
                          show _ ↔ _
                          rw [at_take HY.out]
                        
                          simp only [true_iff]
                          intro y hy hye
                          rcases List.mem_append.1 hy with hy | hy
                          · exact HFT.out y hy hye
                          · rw [List.mem_singleton.1 hy]; dsimp only; omega
                        case measure => simp [intOf]; omega
                · obtain rfl : n = q := by omega
                  have HF2 := HF.out
                  rw [List.take_of_length_le (by rw [HL.out]; omega)] at HF2
                  have HF := Lib.hid HF2
                  clear HF2
                  have z1 : wr.cell? ⟨wo.heap.size, 1, none⟩ = some (.int .i64 xe) := bX.cell 1
                  have z2 : wr.cell? ⟨wo.heap.size, 2, none⟩ = some (.bool xp) := bX.cell 2
                  have z3 : wr.cell? ⟨wo.heap.size, 3, none⟩ = some (.int .i64 xv) := bX.cell 3
                  have z4 : wr.cell? ⟨wo.heap.size, 4, none⟩ = some (.int .i64 xa) := bX.cell 4
                  obtain ⟨v, nx, hv⟩ : ∃ v nx, tel k has ⟨xb, xe, xp, xv, xa⟩ = (v, nx) := ⟨_, _, rfl⟩
                  have HV := Lib.hid hv
                  have hln := tel_len k has ⟨xb, xe, xp, xv, xa⟩
                  have hon := okH_tel (k := k) (has := has) ⟨xb, xe, xp, xv, xa⟩
                  rw [hv] at hln hon
                  have HON := Lib.hid hon
                  have HLNX := Lib.hid hln
                  clear hv hon hln
                  by_cases hk2 : k = 2
                  · subst hk2
                    obtain rfl : hn = 1 := h1 (by decide)
                    have htl := tl_tel HO.out (x := ⟨xb, xe, xp, xv, xa⟩) HPX.out (z := xa) (by rw [if_pos rfl])
                    rw [HV.out] at htl
                    dsimp only at htl
                    obtain ⟨ta, htt⟩ : ∃ ta, tl 2 has xp xa = (v, ta, nx) := ⟨(tl 2 has xp xa).2.1, by rw [← htl.1, ← htl.2]⟩
                    clear htl
                    have hct := keep_tell wr 2 hA 1 hc has xp xa ((h.below hbelq).more hszq) hk (fun _ => rfl) (by omega) hnc
                    rw [htt] at hct
                    have HCT := Lib.hid hct
                    clear htt hct
                    go_wp2_with fail
                    refine HCT.out.mono ?_
                    rintro e w4 ⟨A4, n4, c4, rfl, hri4, hlc4, hb4, _⟩
                    have hln := HLNX.out
                    have hln4 : nx.length = n4 := hri4.len
                    have hn4 : n4 ≤ 1 + 1 := by have := hln.1; have := HH.out; omega
                    obtain rfl : n4 = 1 := by have := hln.2 (by decide) (by decide) HH.out; omega
                    have HK1 : Hid True := trivial
                    have HLN := Lib.hid hln4
                    have bX4 := bX.below hb4 lX
                    have l4 := bX4.lt
                    have y1 : w4.cell? ⟨wo.heap.size, 1, none⟩ = some (.int .i64 xe) := bX4.cell 1
                    have y3 : w4.cell? ⟨wo.heap.size, 3, none⟩ = some (.int .i64 xv) := bX4.cell 3
                    have hbel4 : Below w.heap.size w w4 := hbelq.trans (hb4.mono hszq)
                    have hsz4 := hbel4.size
                    have HT1 : Hid (RA w4 w4.heap.size (some ⟨bb, o, none⟩) j (left.take j)) := by
                      have := ((hl.below hbel4).more hsz4).win (i := 0) (m := j) (by omega)
                      show RA _ _ _ _ _
                      simpa using this
                    have HT2 : Hid (RA w4 w4.heap.size (some ⟨bb, o + (j + 1) * 5, none⟩) (n - (j + 1)) (left.drop (j + 1))) := by
                      have := ((hl.below hbel4).more hsz4).win (i := j + 1) (m := n - (j + 1)) (by omega)
                      rw [List.take_of_length_le (by simp [HL.out])] at this
                      exact this
                    clear hln hln4 z0 z1 z2 z3 z4
                    skip
                    cases b with
                    | false =>
                      go_wp2
                      go_roundw
                      case rel =>
                        refine ⟨j + 1, by omega, by go_num, ?_, hbel4⟩
                        intro p hp
                        by_cases hpj : p = j
                        · subst hpj
                          rintro ⟨a, ha, h2, _⟩
                          rw [HX.out] at ha
                          injection ha with ha
                          subst ha
                          have := HF.out.2 h2
                          simp at this
                        · exact HC.out p (by omega)
                      case measure => simp [intOf]; omega
                    | true =>
                      have HFI : Hid (∀ b ∈ left, b.e ≠ -1 → xb ≤ b.e) := HF.out.1 (by first | rfl | trivial)
                      by_cases he : xe = -1
                      · subst he
                        have hfin : ∀ r', (r' = true ↔ Lin 2 nx (left.eraseIdx j)) → (r' = true → r = true) ∧ (r' = false → ¬ cand 2 has left j) := by
                          intro r' hr'
                          refine ⟨fun hh => HR.out.2 (lin_cand.2 (.inr ⟨j, _, HX.out, HFI.out, fun hne => absurd rfl hne, by rw [HV.out]; exact hr'.1 hh⟩)), fun hh hc => ?_⟩
                          obtain ⟨a, ha, _, _, h4⟩ := hc
                          rw [HX.out] at ha
                          injection ha with ha
                          subst ha
                          rw [HV.out] at h4
                          have := hr'.2 h4
                          rw [hh] at this
                          cases this
                        have HFN := Lib.hid hfin
                        clear hfin
                        by_cases hcj : c = j + 1
                        · subst hcj
                          go_wp2
                          refine region_first [0, 1, 2, 4, 5, 6, 7] (.cons 3 (seq [8, 9] .nil)) (by kernel_rfl) (by kernel_rfl) ?_
                          simp only [pick, List.map_cons, List.map_nil, List.getD_cons_zero, List.getD_cons_succ]
                          go_wp2
                          refine ord_call (by kernel_rfl) ?_
                          simp only [pick, List.map_cons, List.map_nil, List.getD_cons_zero, List.getD_cons_succ]
                          go_wp2_with (at_builtin; go_must (refine app_src eltAct w4.drew rfl (.const (.slice none 0 0)) (.tmp 102) rfl w4.heap.size (.slice none 0 0) 0 [] rfl (World.ownsRow_nil _ _ _ _) _ _ _ ((left.take j).flatMap acV) rfl w4.heap.size (by exact Rd.heap HT1.out rfl) (acV_one _) (by omega) (by omega) (Nat.le_refl _) ?_); intro u5 w5 hu5 hgr5 hbel5 hsz5; rw [List.nil_append, Nat.zero_add] at hu5; obtain ⟨A5, c5, rfl, _⟩ := own_form hu5)
                          have hb5 : Below w4.heap.size w4 w5 := (Below.refl _ _).drew.trans (hbel5 _ (Below.refl _ _))
                          have HT2b := Lib.hid (HT2.out.below hb5)
                          refine ⟨fun k hk => (hbel5 _ (Below.refl _ _)).block k hk, ?_⟩
                          refine ord_last [8, 9] (by kernel_rfl) ?_
                          simp only [pick, List.map_cons, List.map_nil, List.getD_cons_zero, List.getD_cons_succ]
                          go_wp2_with (at_builtin; go_must (refine app_src eltAct w5 rfl (.tmp 103) (.tmp 107) rfl w4.heap.size (.slice A5 j c5) j ((left.take j).flatMap acV) rfl hu5 (some ⟨bb, o, none⟩) 0 0 [] rfl w4.heap.size ⟨rfl, fun h => absurd h (by omega)⟩ (by simp) (by omega) (by omega) hsz5 ?_); intro u6 w6 hu6 hgr6 hbel6 hsz6; rw [show j + 0 = n - 1 by omega, show (left.take j).flatMap acV ++ [] = (left.take j ++ left.drop (j + 1)).flatMap acV by rw [List.drop_of_length_le (by rw [HL.out]; omega)]; simp] at hu6; obtain ⟨A6, c6, rfl, hlc6⟩ := own_form hu6)
                          have hb6 : Below w4.heap.size w4 w6 := (Below.refl _ _).trans (hbel6 _ hb5)
                          have hRA6 : RA w6 w6.heap.size A6 (n - 1) (left.eraseIdx j) := by
                            have := Rd.of_own hu6
                            rw [← List.eraseIdx_eq_take_drop_succ] at this
                            exact this
                          have hri6 := (hri4.below hb6).more hb6.size
                          obtain ⟨r', hr'⟩ : ∃ r' : Bool, r' = true ↔ Lin 2 nx (left.eraseIdx j) := ⟨@decide (Lin 2 nx (left.eraseIdx j)) (Classical.propDecidable _), by simp⟩
                          have HR' := Lib.hid hr'
                          have HRA6 := Lib.hid hRA6
                          have HRI6 := Lib.hid hri6
                          have HP6 : Hid (∀ a ∈ left.eraseIdx j, (2 : Int) = 2 → a.put = false → a.add = 0) := fun a ha h2' => HP.out a (List.mem_of_mem_eraseIdx ha) (by first | exact h2' | trivial)
                          clear hbel5 hbel6 hgr5 hgr6 hu5 hu6 hr' hRA6 hri6
                          go_wp2_with fail
                          refine (HIH.out (n - 1) (by have := HN.out; omega) w6 2 A4 1 c4 nx A6 (n - 1) c6 (left.eraseIdx j) r' rfl (by omega) hlc4 hlc6 hk (fun _ => rfl) HON.out (fun a ha _ hp => HP6.out a ha trivial hp) HRI6.out HRA6.out HR'.out).mono ?_
                          rintro e w7 ⟨rfl, hb7⟩
                          have hb07 : Below w.heap.size w w7 := hbel4.trans ((hb6.mono (by omega)).trans (hb7.mono (by have := hb6.size; omega)))
                          cases r' with
                          | true =>
                            have hrt : r = true := (HFN.out true HR'.out).1 rfl
                            go_wp2
                            go_ret
                            exact ⟨by first | rfl | exact ret_bool hrt.symm, hb07⟩
                          | false =>
                            have HNC := Lib.hid ((HFN.out false HR'.out).2 rfl)
                            go_wp2
                            go_roundw
                            case rel =>
                              refine ⟨j + 1, by omega, by go_num, ?_, hb07⟩
                              intro p hp
                              by_cases hpj : p = j
                              · subst hpj; exact HNC.out
                              · exact HC.out p (by omega)
                            case measure => simp [intOf]; omega
                        · skip
                          go_wp2
                          refine region_first [0, 1, 2, 4, 5, 6, 7] (.cons 3 (seq [8, 9] .nil)) (by kernel_rfl) (by kernel_rfl) ?_
                          simp only [pick, List.map_cons, List.map_nil, List.getD_cons_zero, List.getD_cons_succ]
                          go_wp2
                          refine ord_call (by kernel_rfl) ?_
                          simp only [pick, List.map_cons, List.map_nil, List.getD_cons_zero, List.getD_cons_succ]
                          go_wp2_with (at_builtin; go_must (refine app_src eltAct w4.drew rfl (.const (.slice none 0 0)) (.tmp 102) rfl w4.heap.size (.slice none 0 0) 0 [] rfl (World.ownsRow_nil _ _ _ _) _ _ _ ((left.take j).flatMap acV) rfl w4.heap.size (by exact Rd.heap HT1.out rfl) (acV_one _) (by omega) (by omega) (Nat.le_refl _) ?_); intro u5 w5 hu5 hgr5 hbel5 hsz5; rw [List.nil_append, Nat.zero_add] at hu5; obtain ⟨A5, c5, rfl, _⟩ := own_form hu5)
                          have hb5 : Below w4.heap.size w4 w5 := (Below.refl _ _).drew.trans (hbel5 _ (Below.refl _ _))
                          have HT2b := Lib.hid (HT2.out.below hb5)
                          refine ⟨fun k hk => (hbel5 _ (Below.refl _ _)).block k hk, ?_⟩
                          refine ord_last [8, 9] (by kernel_rfl) ?_
                          simp only [pick, List.map_cons, List.map_nil, List.getD_cons_zero, List.getD_cons_succ]
                          go_wp2_with (at_builtin; go_must (refine app_src eltAct w5 rfl (.tmp 103) (.tmp 107) rfl w4.heap.size (.slice A5 j c5) j ((left.take j).flatMap acV) rfl hu5 (some ⟨bb, o + (j + 1) * 5, none⟩) (n - (j + 1)) _ ((left.drop (j + 1)).flatMap acV) rfl w4.heap.size (by exact HT2b.out) (acV_one _) (by omega) (by omega) hsz5 ?_); intro u6 w6 hu6 hgr6 hbel6 hsz6; rw [show j + (n - (j + 1)) = n - 1 by omega, ← List.flatMap_append] at hu6; obtain ⟨A6, c6, rfl, hlc6⟩ := own_form hu6)
                          have hb6 : Below w4.heap.size w4 w6 := (Below.refl _ _).trans (hbel6 _ hb5)
                          have hRA6 : RA w6 w6.heap.size A6 (n - 1) (left.eraseIdx j) := by
                            have := Rd.of_own hu6
                            rw [← List.eraseIdx_eq_take_drop_succ] at this
                            exact this
                          have hri6 := (hri4.below hb6).more hb6.size
                          obtain ⟨r', hr'⟩ : ∃ r' : Bool, r' = true ↔ Lin 2 nx (left.eraseIdx j) := ⟨@decide (Lin 2 nx (left.eraseIdx j)) (Classical.propDecidable _), by simp⟩
                          have HR' := Lib.hid hr'
                          have HRA6 := Lib.hid hRA6
                          have HRI6 := Lib.hid hri6
                          have HP6 : Hid (∀ a ∈ left.eraseIdx j, (2 : Int) = 2 → a.put = false → a.add = 0) := fun a ha h2' => HP.out a (List.mem_of_mem_eraseIdx ha) (by first | exact h2' | trivial)
                          clear hbel5 hbel6 hgr5 hgr6 hu5 hu6 hr' hRA6 hri6
                          go_wp2_with fail
                          refine (HIH.out (n - 1) (by have := HN.out; omega) w6 2 A4 1 c4 nx A6 (n - 1) c6 (left.eraseIdx j) r' rfl (by omega) hlc4 hlc6 hk (fun _ => rfl) HON.out (fun a ha _ hp => HP6.out a ha trivial hp) HRI6.out HRA6.out HR'.out).mono ?_
                          rintro e w7 ⟨rfl, hb7⟩
                          have hb07 : Below w.heap.size w w7 := hbel4.trans ((hb6.mono (by omega)).trans (hb7.mono (by have := hb6.size; omega)))
                          cases r' with
                          | true =>
                            have hrt : r = true := (HFN.out true HR'.out).1 rfl
                            go_wp2
                            go_ret
                            exact ⟨by first | rfl | exact ret_bool hrt.symm, hb07⟩
                          | false =>
                            have HNC := Lib.hid ((HFN.out false HR'.out).2 rfl)
                            go_wp2
                            go_roundw
                            case rel =>
                              refine ⟨j + 1, by omega, by go_num, ?_, hb07⟩
                              intro p hp
                              by_cases hpj : p = j
                              · subst hpj; exact HNC.out
                              · exact HC.out p (by omega)
                            case measure => simp [intOf]; omega
                      · have he2 : (xe != -1) = true := by simp [he]
                        have HE := Lib.hid he
                        clear he
                        by_cases hvx : v = xv
                        · subst hvx
                          have hfin : ∀ r', (r' = true ↔ Lin 2 nx (left.eraseIdx j)) → (r' = true → r = true) ∧ (r' = false → ¬ cand 2 has left j) := by
                            intro r' hr'
                            refine ⟨fun hh => HR.out.2 (lin_cand.2 (.inr ⟨j, _, HX.out, HFI.out, fun hne => by rw [HV.out], by rw [HV.out]; exact hr'.1 hh⟩)), fun hh hc => ?_⟩
                            obtain ⟨a, ha, _, _, h4⟩ := hc
                            rw [HX.out] at ha
                            injection ha with ha
                            subst ha
                            rw [HV.out] at h4
                            have := hr'.2 h4
                            rw [hh] at this
                            cases this
                          have HFN := Lib.hid hfin
                          clear hfin
                          by_cases hcj : c = j + 1
                          · subst hcj
                            go_wp2
                            refine region_first [0, 1, 2, 4, 5, 6, 7] (.cons 3 (seq [8, 9] .nil)) (by kernel_rfl) (by kernel_rfl) ?_
                            simp only [pick, List.map_cons, List.map_nil, List.getD_cons_zero, List.getD_cons_succ]
                            go_wp2
                            refine ord_call (by kernel_rfl) ?_
                            simp only [pick, List.map_cons, List.map_nil, List.getD_cons_zero, List.getD_cons_succ]
                            go_wp2_with (at_builtin; go_must (refine app_src eltAct w4.drew rfl (.const (.slice none 0 0)) (.tmp 102) rfl w4.heap.size (.slice none 0 0) 0 [] rfl (World.ownsRow_nil _ _ _ _) _ _ _ ((left.take j).flatMap acV) rfl w4.heap.size (by exact Rd.heap HT1.out rfl) (acV_one _) (by omega) (by omega) (Nat.le_refl _) ?_); intro u5 w5 hu5 hgr5 hbel5 hsz5; rw [List.nil_append, Nat.zero_add] at hu5; obtain ⟨A5, c5, rfl, _⟩ := own_form hu5)
                            have hb5 : Below w4.heap.size w4 w5 := (Below.refl _ _).drew.trans (hbel5 _ (Below.refl _ _))
                            have HT2b := Lib.hid (HT2.out.below hb5)
                            refine ⟨fun k hk => (hbel5 _ (Below.refl _ _)).block k hk, ?_⟩
                            refine ord_last [8, 9] (by kernel_rfl) ?_
                            simp only [pick, List.map_cons, List.map_nil, List.getD_cons_zero, List.getD_cons_succ]
                            go_wp2_with (at_builtin; go_must (refine app_src eltAct w5 rfl (.tmp 103) (.tmp 107) rfl w4.heap.size (.slice A5 j c5) j ((left.take j).flatMap acV) rfl hu5 (some ⟨bb, o, none⟩) 0 0 [] rfl w4.heap.size ⟨rfl, fun h => absurd h (by omega)⟩ (by simp) (by omega) (by omega) hsz5 ?_); intro u6 w6 hu6 hgr6 hbel6 hsz6; rw [show j + 0 = n - 1 by omega, show (left.take j).flatMap acV ++ [] = (left.take j ++ left.drop (j + 1)).flatMap acV by rw [List.drop_of_length_le (by rw [HL.out]; omega)]; simp] at hu6; obtain ⟨A6, c6, rfl, hlc6⟩ := own_form hu6)
                            have hb6 : Below w4.heap.size w4 w6 := (Below.refl _ _).trans (hbel6 _ hb5)
                            have hRA6 : RA w6 w6.heap.size A6 (n - 1) (left.eraseIdx j) := by
                              have := Rd.of_own hu6
                              rw [← List.eraseIdx_eq_take_drop_succ] at this
                              exact this
                            have hri6 := (hri4.below hb6).more hb6.size
                            obtain ⟨r', hr'⟩ : ∃ r' : Bool, r' = true ↔ Lin 2 nx (left.eraseIdx j) := ⟨@decide (Lin 2 nx (left.eraseIdx j)) (Classical.propDecidable _), by simp⟩
                            have HR' := Lib.hid hr'
                            have HRA6 := Lib.hid hRA6
                            have HRI6 := Lib.hid hri6
                            have HP6 : Hid (∀ a ∈ left.eraseIdx j, (2 : Int) = 2 → a.put = false → a.add = 0) := fun a ha h2' => HP.out a (List.mem_of_mem_eraseIdx ha) (by first | exact h2' | trivial)
                            clear hbel5 hbel6 hgr5 hgr6 hu5 hu6 hr' hRA6 hri6
                            go_wp2_with fail
                            refine (HIH.out (n - 1) (by have := HN.out; omega) w6 2 A4 1 c4 nx A6 (n - 1) c6 (left.eraseIdx j) r' rfl (by omega) hlc4 hlc6 hk (fun _ => rfl) HON.out (fun a ha _ hp => HP6.out a ha trivial hp) HRI6.out HRA6.out HR'.out).mono ?_
                            rintro e w7 ⟨rfl, hb7⟩
                            have hb07 : Below w.heap.size w w7 := hbel4.trans ((hb6.mono (by omega)).trans (hb7.mono (by have := hb6.size; omega)))
                            cases r' with
                            | true =>
                              have hrt : r = true := (HFN.out true HR'.out).1 rfl
                              go_wp2
                              go_ret
                              exact ⟨by first | rfl | exact ret_bool hrt.symm, hb07⟩
                            | false =>
                              have HNC := Lib.hid ((HFN.out false HR'.out).2 rfl)
                              go_wp2
                              go_roundw
                              case rel =>
                                refine ⟨j + 1, by omega, by go_num, ?_, hb07⟩
                                intro p hp
                                by_cases hpj : p = j
                                · subst hpj; exact HNC.out
                                · exact HC.out p (by omega)
                              case measure => simp [intOf]; omega
                          · skip
                            go_wp2
                            refine region_first [0, 1, 2, 4, 5, 6, 7] (.cons 3 (seq [8, 9] .nil)) (by kernel_rfl) (by kernel_rfl) ?_
                            simp only [pick, List.map_cons, List.map_nil, List.getD_cons_zero, List.getD_cons_succ]
                            go_wp2
                            refine ord_call (by kernel_rfl) ?_
                            simp only [pick, List.map_cons, List.map_nil, List.getD_cons_zero, List.getD_cons_succ]
                            go_wp2_with (at_builtin; go_must (refine app_src eltAct w4.drew rfl (.const (.slice none 0 0)) (.tmp 102) rfl w4.heap.size (.slice none 0 0) 0 [] rfl (World.ownsRow_nil _ _ _ _) _ _ _ ((left.take j).flatMap acV) rfl w4.heap.size (by exact Rd.heap HT1.out rfl) (acV_one _) (by omega) (by omega) (Nat.le_refl _) ?_); intro u5 w5 hu5 hgr5 hbel5 hsz5; rw [List.nil_append, Nat.zero_add] at hu5; obtain ⟨A5, c5, rfl, _⟩ := own_form hu5)
                            have hb5 : Below w4.heap.size w4 w5 := (Below.refl _ _).drew.trans (hbel5 _ (Below.refl _ _))
                            have HT2b := Lib.hid (HT2.out.below hb5)
                            refine ⟨fun k hk => (hbel5 _ (Below.refl _ _)).block k hk, ?_⟩
                            refine ord_last [8, 9] (by kernel_rfl) ?_
                            simp only [pick, List.map_cons, List.map_nil, List.getD_cons_zero, List.getD_cons_succ]
                            go_wp2_with (at_builtin; go_must (refine app_src eltAct w5 rfl (.tmp 103) (.tmp 107) rfl w4.heap.size (.slice A5 j c5) j ((left.take j).flatMap acV) rfl hu5 (some ⟨bb, o + (j + 1) * 5, none⟩) (n - (j + 1)) _ ((left.drop (j + 1)).flatMap acV) rfl w4.heap.size (by exact HT2b.out) (acV_one _) (by omega) (by omega) hsz5 ?_); intro u6 w6 hu6 hgr6 hbel6 hsz6; rw [show j + (n - (j + 1)) = n - 1 by omega, ← List.flatMap_append] at hu6; obtain ⟨A6, c6, rfl, hlc6⟩ := own_form hu6)
                            have hb6 : Below w4.heap.size w4 w6 := (Below.refl _ _).trans (hbel6 _ hb5)
                            have hRA6 : RA w6 w6.heap.size A6 (n - 1) (left.eraseIdx j) := by
                              have := Rd.of_own hu6
                              rw [← List.eraseIdx_eq_take_drop_succ] at this
                              exact this
                            have hri6 := (hri4.below hb6).more hb6.size
                            obtain ⟨r', hr'⟩ : ∃ r' : Bool, r' = true ↔ Lin 2 nx (left.eraseIdx j) := ⟨@decide (Lin 2 nx (left.eraseIdx j)) (Classical.propDecidable _), by simp⟩
                            have HR' := Lib.hid hr'
                            have HRA6 := Lib.hid hRA6
                            have HRI6 := Lib.hid hri6
                            have HP6 : Hid (∀ a ∈ left.eraseIdx j, (2 : Int) = 2 → a.put = false → a.add = 0) := fun a ha h2' => HP.out a (List.mem_of_mem_eraseIdx ha) (by first | exact h2' | trivial)
                            clear hbel5 hbel6 hgr5 hgr6 hu5 hu6 hr' hRA6 hri6
                            go_wp2_with fail
                            refine (HIH.out (n - 1) (by have := HN.out; omega) w6 2 A4 1 c4 nx A6 (n - 1) c6 (left.eraseIdx j) r' rfl (by omega) hlc4 hlc6 hk (fun _ => rfl) HON.out (fun a ha _ hp => HP6.out a ha trivial hp) HRI6.out HRA6.out HR'.out).mono ?_
                            rintro e w7 ⟨rfl, hb7⟩
                            have hb07 : Below w.heap.size w w7 := hbel4.trans ((hb6.mono (by omega)).trans (hb7.mono (by have := hb6.size; omega)))
                            cases r' with
                            | true =>
                              have hrt : r = true := (HFN.out true HR'.out).1 rfl
                              go_wp2
                              go_ret
                              exact ⟨by first | rfl | exact ret_bool hrt.symm, hb07⟩
                            | false =>
                              have HNC := Lib.hid ((HFN.out false HR'.out).2 rfl)
                              go_wp2
                              go_roundw
                              case rel =>
                                refine ⟨j + 1, by omega, by go_num, ?_, hb07⟩
                                intro p hp
                                by_cases hpj : p = j
                                · subst hpj; exact HNC.out
                                · exact HC.out p (by omega)
                              case measure => simp [intOf]; omega
                        · have hv2 : (v != xv) = true := by simp [hvx]
                          have HVX := Lib.hid hvx
                          clear hvx
                          go_wp2
                          go_roundw
                          case rel =>
                            refine ⟨j + 1, by omega, by go_num, ?_, hbel4⟩
                            intro p hp
                            by_cases hpj : p = j
                            · subst hpj
                              rintro ⟨a, ha, _, h3, _⟩
                              rw [HX.out] at ha
                              injection ha with ha
                              subst ha
                              have := h3 HE.out
                              rw [HV.out] at this
                              exact HVX.out this
                            · exact HC.out p (by omega)
                          case measure => simp [intOf]; omega
                  · skip
                    have htl := tl_tel HO.out (x := ⟨xb, xe, xp, xv, xa⟩) HPX.out (z := xv) (by rw [if_neg hk2])
                    rw [HV.out] at htl
                    dsimp only at htl
                    obtain ⟨ta, htt⟩ : ∃ ta, tl k has xp xv = (v, ta, nx) := ⟨(tl k has xp xv).2.1, by rw [← htl.1, ← htl.2]⟩
                    clear htl
                    have hct := keep_tell wr k hA hn hc has xp xv ((h.below hbelq).more hszq) hk h1 (by omega) hnc
                    rw [htt] at hct
                    have HCT := Lib.hid hct
                    clear htt hct
                    go_wp2_with fail
                    refine HCT.out.mono ?_
                    rintro e w4 ⟨A4, n4, c4, rfl, hri4, hlc4, hb4, _⟩
                    have hln := HLNX.out
                    have hln4 : nx.length = n4 := hri4.len
                    have hn4 : n4 ≤ hn + 1 := by have := hln.1; have := HH.out; omega
                    have hk1 : k < 3 → n4 = 1 := fun h3 => by have := hln.2 h3 hk.1 (by rw [HH.out]; exact h1 h3); omega
                    have HK1 := Lib.hid hk1
                    have HLN := Lib.hid hln4
                    have bX4 := bX.below hb4 lX
                    have l4 := bX4.lt
                    have y1 : w4.cell? ⟨wo.heap.size, 1, none⟩ = some (.int .i64 xe) := bX4.cell 1
                    have y3 : w4.cell? ⟨wo.heap.size, 3, none⟩ = some (.int .i64 xv) := bX4.cell 3
                    have hbel4 : Below w.heap.size w w4 := hbelq.trans (hb4.mono hszq)
                    have hsz4 := hbel4.size
                    have HT1 : Hid (RA w4 w4.heap.size (some ⟨bb, o, none⟩) j (left.take j)) := by
                      have := ((hl.below hbel4).more hsz4).win (i := 0) (m := j) (by omega)
                      show RA _ _ _ _ _
                      simpa using this
                    have HT2 : Hid (RA w4 w4.heap.size (some ⟨bb, o + (j + 1) * 5, none⟩) (n - (j + 1)) (left.drop (j + 1))) := by
                      have := ((hl.below hbel4).more hsz4).win (i := j + 1) (m := n - (j + 1)) (by omega)
                      rw [List.take_of_length_le (by simp [HL.out])] at this
                      exact this
                    clear hln hln4 z0 z1 z2 z3 z4 hk1
                    have hk1 := HK1.out
                    cases b with
                    | false =>
                      go_wp2
                      go_roundw
                      case rel =>
                        refine ⟨j + 1, by omega, by go_num, ?_, hbel4⟩
                        intro p hp
                        by_cases hpj : p = j
                        · subst hpj
                          rintro ⟨a, ha, h2, _⟩
                          rw [HX.out] at ha
                          injection ha with ha
                          subst ha
                          have := HF.out.2 h2
                          simp at this
                        · exact HC.out p (by omega)
                      case measure => simp [intOf]; omega
                    | true =>
                      have HFI : Hid (∀ b ∈ left, b.e ≠ -1 → xb ≤ b.e) := HF.out.1 (by first | rfl | trivial)
                      by_cases he : xe = -1
                      · subst he
                        have hfin : ∀ r', (r' = true ↔ Lin k nx (left.eraseIdx j)) → (r' = true → r = true) ∧ (r' = false → ¬ cand k has left j) := by
                          intro r' hr'
                          refine ⟨fun hh => HR.out.2 (lin_cand.2 (.inr ⟨j, _, HX.out, HFI.out, fun hne => absurd rfl hne, by rw [HV.out]; exact hr'.1 hh⟩)), fun hh hc => ?_⟩
                          obtain ⟨a, ha, _, _, h4⟩ := hc
                          rw [HX.out] at ha
                          injection ha with ha
                          subst ha
                          rw [HV.out] at h4
                          have := hr'.2 h4
                          rw [hh] at this
                          cases this
                        have HFN := Lib.hid hfin
                        clear hfin
                        by_cases hcj : c = j + 1
                        · subst hcj
                          go_wp2
                          refine region_first [0, 1, 2, 4, 5, 6, 7] (.cons 3 (seq [8, 9] .nil)) (by kernel_rfl) (by kernel_rfl) ?_
                          simp only [pick, List.map_cons, List.map_nil, List.getD_cons_zero, List.getD_cons_succ]
                          go_wp2
                          refine ord_call (by kernel_rfl) ?_
                          simp only [pick, List.map_cons, List.map_nil, List.getD_cons_zero, List.getD_cons_succ]
                          go_wp2_with (at_builtin; go_must (refine app_src eltAct w4.drew rfl (.const (.slice none 0 0)) (.tmp 102) rfl w4.heap.size (.slice none 0 0) 0 [] rfl (World.ownsRow_nil _ _ _ _) _ _ _ ((left.take j).flatMap acV) rfl w4.heap.size (by exact Rd.heap HT1.out rfl) (acV_one _) (by omega) (by omega) (Nat.le_refl _) ?_); intro u5 w5 hu5 hgr5 hbel5 hsz5; rw [List.nil_append, Nat.zero_add] at hu5; obtain ⟨A5, c5, rfl, _⟩ := own_form hu5)
                          have hb5 : Below w4.heap.size w4 w5 := (Below.refl _ _).drew.trans (hbel5 _ (Below.refl _ _))
                          have HT2b := Lib.hid (HT2.out.below hb5)
                          refine ⟨fun k hk => (hbel5 _ (Below.refl _ _)).block k hk, ?_⟩
                          refine ord_last [8, 9] (by kernel_rfl) ?_
                          simp only [pick, List.map_cons, List.map_nil, List.getD_cons_zero, List.getD_cons_succ]
                          go_wp2_with (at_builtin; go_must (refine app_src eltAct w5 rfl (.tmp 103) (.tmp 107) rfl w4.heap.size (.slice A5 j c5) j ((left.take j).flatMap acV) rfl hu5 (some ⟨bb, o, none⟩) 0 0 [] rfl w4.heap.size ⟨rfl, fun h => absurd h (by omega)⟩ (by simp) (by omega) (by omega) hsz5 ?_); intro u6 w6 hu6 hgr6 hbel6 hsz6; rw [show j + 0 = n - 1 by omega, show (left.take j).flatMap acV ++ [] = (left.take j ++ left.drop (j + 1)).flatMap acV by rw [List.drop_of_length_le (by rw [HL.out]; omega)]; simp] at hu6; obtain ⟨A6, c6, rfl, hlc6⟩ := own_form hu6)
                          have hb6 : Below w4.heap.size w4 w6 := (Below.refl _ _).trans (hbel6 _ hb5)
                          have hRA6 : RA w6 w6.heap.size A6 (n - 1) (left.eraseIdx j) := by
                            have := Rd.of_own hu6
                            rw [← List.eraseIdx_eq_take_drop_succ] at this
                            exact this
                          have hri6 := (hri4.below hb6).more hb6.size
                          obtain ⟨r', hr'⟩ : ∃ r' : Bool, r' = true ↔ Lin k nx (left.eraseIdx j) := ⟨@decide (Lin k nx (left.eraseIdx j)) (Classical.propDecidable _), by simp⟩
                          have HR' := Lib.hid hr'
                          have HRA6 := Lib.hid hRA6
                          have HRI6 := Lib.hid hri6
                          have HP6 : Hid (∀ a ∈ left.eraseIdx j, k = 2 → a.put = false → a.add = 0) := fun a ha h2' => HP.out a (List.mem_of_mem_eraseIdx ha) (by first | exact h2' | trivial)
                          clear hbel5 hbel6 hgr5 hgr6 hu5 hu6 hr' hRA6 hri6
                          go_wp2_with fail
                          refine (HIH.out (n - 1) (by have := HN.out; omega) w6 k A4 n4 c4 nx A6 (n - 1) c6 (left.eraseIdx j) r' rfl (by omega) hlc4 hlc6 hk hk1 HON.out HP6.out HRI6.out HRA6.out HR'.out).mono ?_
                          rintro e w7 ⟨rfl, hb7⟩
                          have hb07 : Below w.heap.size w w7 := hbel4.trans ((hb6.mono (by omega)).trans (hb7.mono (by have := hb6.size; omega)))
                          cases r' with
                          | true =>
                            have hrt : r = true := (HFN.out true HR'.out).1 rfl
                            go_wp2
                            go_ret
                            exact ⟨by first | rfl | exact ret_bool hrt.symm, hb07⟩
                          | false =>
                            have HNC := Lib.hid ((HFN.out false HR'.out).2 rfl)
                            go_wp2
                            go_roundw
                            case rel =>
                              refine ⟨j + 1, by omega, by go_num, ?_, hb07⟩
                              intro p hp
                              by_cases hpj : p = j
                              · subst hpj; exact HNC.out
                              · exact HC.out p (by omega)
                            case measure => simp [intOf]; omega
                        · skip
                          go_wp2
                          refine region_first [0, 1, 2, 4, 5, 6, 7] (.cons 3 (seq [8, 9] .nil)) (by kernel_rfl) (by kernel_rfl) ?_
                          simp only [pick, List.map_cons, List.map_nil, List.getD_cons_zero, List.getD_cons_succ]
                          go_wp2
                          refine ord_call (by kernel_rfl) ?_
                          simp only [pick, List.map_cons, List.map_nil, List.getD_cons_zero, List.getD_cons_succ]
                          go_wp2_with (at_builtin; go_must (refine app_src eltAct w4.drew rfl (.const (.slice none 0 0)) (.tmp 102) rfl w4.heap.size (.slice none 0 0) 0 [] rfl (World.ownsRow_nil _ _ _ _) _ _ _ ((left.take j).flatMap acV) rfl w4.heap.size (by exact Rd.heap HT1.out rfl) (acV_one _) (by omega) (by omega) (Nat.le_refl _) ?_); intro u5 w5 hu5 hgr5 hbel5 hsz5; rw [List.nil_append, Nat.zero_add] at hu5; obtain ⟨A5, c5, rfl, _⟩ := own_form hu5)
                          have hb5 : Below w4.heap.size w4 w5 := (Below.refl _ _).drew.trans (hbel5 _ (Below.refl _ _))
                          have HT2b := Lib.hid (HT2.out.below hb5)
                          refine ⟨fun k hk => (hbel5 _ (Below.refl _ _)).block k hk, ?_⟩
                          refine ord_last [8, 9] (by kernel_rfl) ?_
                          simp only [pick, List.map_cons, List.map_nil, List.getD_cons_zero, List.getD_cons_succ]
                          go_wp2_with (at_builtin; go_must (refine app_src eltAct w5 rfl (.tmp 103) (.tmp 107) rfl w4.heap.size (.slice A5 j c5) j ((left.take j).flatMap acV) rfl hu5 (some ⟨bb, o + (j + 1) * 5, none⟩) (n - (j + 1)) _ ((left.drop (j + 1)).flatMap acV) rfl w4.heap.size (by exact HT2b.out) (acV_one _) (by omega) (by omega) hsz5 ?_); intro u6 w6 hu6 hgr6 hbel6 hsz6; rw [show j + (n - (j + 1)) = n - 1 by omega, ← List.flatMap_append] at hu6; obtain ⟨A6, c6, rfl, hlc6⟩ := own_form hu6)
                          have hb6 : Below w4.heap.size w4 w6 := (Below.refl _ _).trans (hbel6 _ hb5)
                          have hRA6 : RA w6 w6.heap.size A6 (n - 1) (left.eraseIdx j) := by
                            have := Rd.of_own hu6
                            rw [← List.eraseIdx_eq_take_drop_succ] at this
                            exact this
                          have hri6 := (hri4.below hb6).more hb6.size
                          obtain ⟨r', hr'⟩ : ∃ r' : Bool, r' = true ↔ Lin k nx (left.eraseIdx j) := ⟨@decide (Lin k nx (left.eraseIdx j)) (Classical.propDecidable _), by simp⟩
                          have HR' := Lib.hid hr'
                          have HRA6 := Lib.hid hRA6
                          have HRI6 := Lib.hid hri6
                          have HP6 : Hid (∀ a ∈ left.eraseIdx j, k = 2 → a.put = false → a.add = 0) := fun a ha h2' => HP.out a (List.mem_of_mem_eraseIdx ha) (by first | exact h2' | trivial)
                          clear hbel5 hbel6 hgr5 hgr6 hu5 hu6 hr' hRA6 hri6
                          go_wp2_with fail
                          refine (HIH.out (n - 1) (by have := HN.out; omega) w6 k A4 n4 c4 nx A6 (n - 1) c6 (left.eraseIdx j) r' rfl (by omega) hlc4 hlc6 hk hk1 HON.out HP6.out HRI6.out HRA6.out HR'.out).mono ?_
                          rintro e w7 ⟨rfl, hb7⟩
                          have hb07 : Below w.heap.size w w7 := hbel4.trans ((hb6.mono (by omega)).trans (hb7.mono (by have := hb6.size; omega)))
                          cases r' with
                          | true =>
                            have hrt : r = true := (HFN.out true HR'.out).1 rfl
                            go_wp2
                            go_ret
                            exact ⟨by first | rfl | exact ret_bool hrt.symm, hb07⟩
                          | false =>
                            have HNC := Lib.hid ((HFN.out false HR'.out).2 rfl)
                            go_wp2
                            go_roundw
                            case rel =>
                              refine ⟨j + 1, by omega, by go_num, ?_, hb07⟩
                              intro p hp
                              by_cases hpj : p = j
                              · subst hpj; exact HNC.out
                              · exact HC.out p (by omega)
                            case measure => simp [intOf]; omega
                      · have he2 : (xe != -1) = true := by simp [he]
                        have HE := Lib.hid he
                        clear he
                        by_cases hvx : v = xv
                        · subst hvx
                          have hfin : ∀ r', (r' = true ↔ Lin k nx (left.eraseIdx j)) → (r' = true → r = true) ∧ (r' = false → ¬ cand k has left j) := by
                            intro r' hr'
                            refine ⟨fun hh => HR.out.2 (lin_cand.2 (.inr ⟨j, _, HX.out, HFI.out, fun hne => by rw [HV.out], by rw [HV.out]; exact hr'.1 hh⟩)), fun hh hc => ?_⟩
                            obtain ⟨a, ha, _, _, h4⟩ := hc
                            rw [HX.out] at ha
                            injection ha with ha
                            subst ha
                            rw [HV.out] at h4
                            have := hr'.2 h4
                            rw [hh] at this
                            cases this
                          have HFN := Lib.hid hfin
                          clear hfin
                          by_cases hcj : c = j + 1
                          · subst hcj
                            go_wp2
                            refine region_first [0, 1, 2, 4, 5, 6, 7] (.cons 3 (seq [8, 9] .nil)) (by kernel_rfl) (by kernel_rfl) ?_
                            simp only [pick, List.map_cons, List.map_nil, List.getD_cons_zero, List.getD_cons_succ]
                            go_wp2
                            refine ord_call (by kernel_rfl) ?_
                            simp only [pick, List.map_cons, List.map_nil, List.getD_cons_zero, List.getD_cons_succ]
                            go_wp2_with (at_builtin; go_must (refine app_src eltAct w4.drew rfl (.const (.slice none 0 0)) (.tmp 102) rfl w4.heap.size (.slice none 0 0) 0 [] rfl (World.ownsRow_nil _ _ _ _) _ _ _ ((left.take j).flatMap acV) rfl w4.heap.size (by exact Rd.heap HT1.out rfl) (acV_one _) (by omega) (by omega) (Nat.le_refl _) ?_); intro u5 w5 hu5 hgr5 hbel5 hsz5; rw [List.nil_append, Nat.zero_add] at hu5; obtain ⟨A5, c5, rfl, _⟩ := own_form hu5)
                            have hb5 : Below w4.heap.size w4 w5 := (Below.refl _ _).drew.trans (hbel5 _ (Below.refl _ _))
                            have HT2b := Lib.hid (HT2.out.below hb5)
                            refine ⟨fun k hk => (hbel5 _ (Below.refl _ _)).block k hk, ?_⟩
                            refine ord_last [8, 9] (by kernel_rfl) ?_
                            simp only [pick, List.map_cons, List.map_nil, List.getD_cons_zero, List.getD_cons_succ]
                            go_wp2_with (at_builtin; go_must (refine app_src eltAct w5 rfl (.tmp 103) (.tmp 107) rfl w4.heap.size (.slice A5 j c5) j ((left.take j).flatMap acV) rfl hu5 (some ⟨bb, o, none⟩) 0 0 [] rfl w4.heap.size ⟨rfl, fun h => absurd h (by omega)⟩ (by simp) (by omega) (by omega) hsz5 ?_); intro u6 w6 hu6 hgr6 hbel6 hsz6; rw [show j + 0 = n - 1 by omega, show (left.take j).flatMap acV ++ [] = (left.take j ++ left.drop (j + 1)).flatMap acV by rw [List.drop_of_length_le (by rw [HL.out]; omega)]; simp] at hu6; obtain ⟨A6, c6, rfl, hlc6⟩ := own_form hu6)
                            have hb6 : Below w4.heap.size w4 w6 := (Below.refl _ _).trans (hbel6 _ hb5)
                            have hRA6 : RA w6 w6.heap.size A6 (n - 1) (left.eraseIdx j) := by
                              have := Rd.of_own hu6
                              rw [← List.eraseIdx_eq_take_drop_succ] at this
                              exact this
                            have hri6 := (hri4.below hb6).more hb6.size
                            obtain ⟨r', hr'⟩ : ∃ r' : Bool, r' = true ↔ Lin k nx (left.eraseIdx j) := ⟨@decide (Lin k nx (left.eraseIdx j)) (Classical.propDecidable _), by simp⟩
                            have HR' := Lib.hid hr'
                            have HRA6 := Lib.hid hRA6
                            have HRI6 := Lib.hid hri6
                            have HP6 : Hid (∀ a ∈ left.eraseIdx j, k = 2 → a.put = false → a.add = 0) := fun a ha h2' => HP.out a (List.mem_of_mem_eraseIdx ha) (by first | exact h2' | trivial)
                            clear hbel5 hbel6 hgr5 hgr6 hu5 hu6 hr' hRA6 hri6
                            go_wp2_with fail
                            refine (HIH.out (n - 1) (by have := HN.out; omega) w6 k A4 n4 c4 nx A6 (n - 1) c6 (left.eraseIdx j) r' rfl (by omega) hlc4 hlc6 hk hk1 HON.out HP6.out HRI6.out HRA6.out HR'.out).mono ?_
                            rintro e w7 ⟨rfl, hb7⟩
                            have hb07 : Below w.heap.size w w7 := hbel4.trans ((hb6.mono (by omega)).trans (hb7.mono (by have := hb6.size; omega)))
                            cases r' with
                            | true =>
                              have hrt : r = true := (HFN.out true HR'.out).1 rfl
                              go_wp2
                              go_ret
                              exact ⟨by first | rfl | exact ret_bool hrt.symm, hb07⟩
                            | false =>
                              have HNC := Lib.hid ((HFN.out false HR'.out).2 rfl)
                              go_wp2
                              go_roundw
                              case rel =>
                                refine ⟨j + 1, by omega, by go_num, ?_, hb07⟩
                                intro p hp
                                by_cases hpj : p = j
                                · subst hpj; exact HNC.out
                                · exact HC.out p (by omega)
                              case measure => simp [intOf]; omega
                          · skip
                            go_wp2
                            refine region_first [0, 1, 2, 4, 5, 6, 7] (.cons 3 (seq [8, 9] .nil)) (by kernel_rfl) (by kernel_rfl) ?_
                            simp only [pick, List.map_cons, List.map_nil, List.getD_cons_zero, List.getD_cons_succ]
                            go_wp2
                            refine ord_call (by kernel_rfl) ?_
                            simp only [pick, List.map_cons, List.map_nil, List.getD_cons_zero, List.getD_cons_succ]
                            go_wp2_with (at_builtin; go_must (refine app_src eltAct w4.drew rfl (.const (.slice none 0 0)) (.tmp 102) rfl w4.heap.size (.slice none 0 0) 0 [] rfl (World.ownsRow_nil _ _ _ _) _ _ _ ((left.take j).flatMap acV) rfl w4.heap.size (by exact Rd.heap HT1.out rfl) (acV_one _) (by omega) (by omega) (Nat.le_refl _) ?_); intro u5 w5 hu5 hgr5 hbel5 hsz5; rw [List.nil_append, Nat.zero_add] at hu5; obtain ⟨A5, c5, rfl, _⟩ := own_form hu5)
                            have hb5 : Below w4.heap.size w4 w5 := (Below.refl _ _).drew.trans (hbel5 _ (Below.refl _ _))
                            have HT2b := Lib.hid (HT2.out.below hb5)
                            refine ⟨fun k hk => (hbel5 _ (Below.refl _ _)).block k hk, ?_⟩
                            refine ord_last [8, 9] (by kernel_rfl) ?_
                            simp only [pick, List.map_cons, List.map_nil, List.getD_cons_zero, List.getD_cons_succ]
                            go_wp2_with (at_builtin; go_must (refine app_src eltAct w5 rfl (.tmp 103) (.tmp 107) rfl w4.heap.size (.slice A5 j c5) j ((left.take j).flatMap acV) rfl hu5 (some ⟨bb, o + (j + 1) * 5, none⟩) (n - (j + 1)) _ ((left.drop (j + 1)).flatMap acV) rfl w4.heap.size (by exact HT2b.out) (acV_one _) (by omega) (by omega) hsz5 ?_); intro u6 w6 hu6 hgr6 hbel6 hsz6; rw [show j + (n - (j + 1)) = n - 1 by omega, ← List.flatMap_append] at hu6; obtain ⟨A6, c6, rfl, hlc6⟩ := own_form hu6)
                            have hb6 : Below w4.heap.size w4 w6 := (Below.refl _ _).trans (hbel6 _ hb5)
                            have hRA6 : RA w6 w6.heap.size A6 (n - 1) (left.eraseIdx j) := by
                              have := Rd.of_own hu6
                              rw [← List.eraseIdx_eq_take_drop_succ] at this
                              exact this
                            have hri6 := (hri4.below hb6).more hb6.size
                            obtain ⟨r', hr'⟩ : ∃ r' : Bool, r' = true ↔ Lin k nx (left.eraseIdx j) := ⟨@decide (Lin k nx (left.eraseIdx j)) (Classical.propDecidable _), by simp⟩
                            have HR' := Lib.hid hr'
                            have HRA6 := Lib.hid hRA6
                            have HRI6 := Lib.hid hri6
                            have HP6 : Hid (∀ a ∈ left.eraseIdx j, k = 2 → a.put = false → a.add = 0) := fun a ha h2' => HP.out a (List.mem_of_mem_eraseIdx ha) (by first | exact h2' | trivial)
                            clear hbel5 hbel6 hgr5 hgr6 hu5 hu6 hr' hRA6 hri6
                            go_wp2_with fail
                            refine (HIH.out (n - 1) (by have := HN.out; omega) w6 k A4 n4 c4 nx A6 (n - 1) c6 (left.eraseIdx j) r' rfl (by omega) hlc4 hlc6 hk hk1 HON.out HP6.out HRI6.out HRA6.out HR'.out).mono ?_
                            rintro e w7 ⟨rfl, hb7⟩
                            have hb07 : Below w.heap.size w w7 := hbel4.trans ((hb6.mono (by omega)).trans (hb7.mono (by have := hb6.size; omega)))
                            cases r' with
                            | true =>
                              have hrt : r = true := (HFN.out true HR'.out).1 rfl
                              go_wp2
                              go_ret
                              exact ⟨by first | rfl | exact ret_bool hrt.symm, hb07⟩
                            | false =>
                              have HNC := Lib.hid ((HFN.out false HR'.out).2 rfl)
                              go_wp2
                              go_roundw
                              case rel =>
                                refine ⟨j + 1, by omega, by go_num, ?_, hb07⟩
                                intro p hp
                                by_cases hpj : p = j
                                · subst hpj; exact HNC.out
                                · exact HC.out p (by omega)
                              case measure => simp [intOf]; omega
                        · have hv2 : (v != xv) = true := by simp [hvx]
                          have HVX := Lib.hid hvx
                          clear hvx
                          go_wp2
                          go_roundw
                          case rel =>
                            refine ⟨j + 1, by omega, by go_num, ?_, hbel4⟩
                            intro p hp
                            by_cases hpj : p = j
                            · subst hpj
                              rintro ⟨a, ha, _, h3, _⟩
                              rw [HX.out] at ha
                              injection ha with ha
                              subst ha
                              have := h3 HE.out
                              rw [HV.out] at this
                              exact HVX.out this
                            · exact HC.out p (by omega)
                          case measure => simp [intOf]; omega
            · obtain rfl : n = j := by omega
              go_wp2
              go_ret
              refine ⟨ret_bool ?_, hbel⟩
              cases r with
              | false => rfl
              | true =>
                rcases lin_cand.1 (HR.out.1 rfl) with hall | ⟨i, hi⟩
                · exact absurd hall HNA.out
                · exact absurd hi (HC.out i (by have := cand_lt hi; rw [HL.out] at this; exact this))
end Go.Proofs.YtnchgdjdfhfedaaDoor
