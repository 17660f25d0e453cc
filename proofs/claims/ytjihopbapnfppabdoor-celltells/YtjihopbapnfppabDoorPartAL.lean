/- Of this claim's own texts these, one behind the other: KeepCell, KeepRan2. No statement of the seat is proved here; no condition but those that stand at the theorems. -/
import Derived.Test.YtjihopbapnfppabDoorPartAG
import Derived.Test.YtjihopbapnfppabDoorPartAK
import Derived.Test.YtjihopbapnfppabDoorPartAH
set_option linter.unusedSimpArgs false
set_option linter.unusedVariables false
namespace Go.Proofs.YtjihopbapnfppabDoor
open Go.RowKit Go.Ord Go.OrdG Go.Baro

/-- The words and the codes of the machine, in memory. -/
structure Cm (c : Cc) (d : Nat) (w : World) (Aw : Option Addr) (nw cw gc : Nat) : Prop where
  words : QT w 3 1 Aw nw ((c.ws d).map (Value.int .i64))
  codes : ∃ Ap np cp Ag ng cg, QT w 65 5 Ap np (cellsO (c.cp d)) ∧ QT w 65 5 Ag ng (cellsO (c.cg d)) ∧ Box w gc 26 [.slice Ap np cp, .slice Ag ng cg] ∧ np ≤ cp ∧ ng ≤ cg
  lw : nw ≤ cw ∧ cw ≤ 9223372036854775807
theorem Cm.kc {T : TypeId → Prop} {c : Cc} {d : Nat} {w w' : World} {Aw : Option Addr} {nw cw gc : Nat} (h : Cm c d w Aw nw cw gc) (hk : Kc T w w') (h1 : ¬ T 3) (h2 : ¬ T 65) (h3 : ¬ T 26) : Cm c d w' Aw nw cw gc := by
  obtain ⟨Ap, np, cp, Ag, ng, cg, q1, q2, q3, q4⟩ := h.codes
  exact ⟨h.words.kc hk h1, ⟨Ap, np, cp, Ag, ng, cg, q1.kc hk h2, q2.kc hk h2, q3.kc hk h3, q4⟩, h.lw⟩
/-- The machine of these words and codes, whose threads are T. -/
theorem Cm.inM {c : Cc} {d : Nat} {w : World} {Aw : Option Addr} {nw cw gc B g6 : Nat} {tg : Nat → Nat} {ts : Nat → Value} {T : Nat → List Cl} (hc : c.Ok) (h1 : 1 ≤ d) (h6 : d ≤ 6) (h : Cm c d w Aw nw cw gc) (hm : Mg 3 49 50 tg w B g6 4 ts T) (hT : ∀ i, i < 4 → okTh (T i)) :
    InM w Aw nw cw (some ⟨gc, 0, none⟩) 2 2 (some ⟨g6, 0, none⟩) 4 4 ⟨c.ws d, [c.cp d, c.cg d], (List.range 4).map T⟩ := by
  obtain ⟨Ap, np, cp, Ag, ng, cg, q2, q3, q4, hlp, hlg⟩ := h.codes
  refine ⟨h.words.rd, ?_, hm.rts, (hc.ws d h1 h6).2.2, ?_, ?_, h.lw, ⟨by omega, by omega⟩, ⟨by omega, by omega⟩⟩
  · refine rg_box (rows := [[.slice Ap np cp], [.slice Ag ng cg]]) q4 rfl rfl (by simp) fun i r x hr hx => ?_
    match i with
    | 0 =>
      simp at hr hx
      subst hr hx
      exact ⟨Ap, np, cp, rfl, hlp, q2.rd⟩
    | 1 =>
      simp at hr hx
      subst hr hx
      exact ⟨Ag, ng, cg, rfl, hlg, q3.rd⟩
    | i + 2 => simp at hr
  · intro x hx
    simp only [List.mem_cons, List.not_mem_nil, or_false] at hx
    rcases hx with rfl | rfl
    · have := (hc.cp d h1 h6).2
      exact ⟨by have := this.1.1; omega, this.2⟩
    · have := (hc.cg d h1 h6).2
      exact ⟨by have := this.1.1; omega, this.2⟩
  · intro t ht
    simp only [List.mem_map, List.mem_range] at ht
    obtain ⟨i, hi, rfl⟩ := ht
    exact hT i hi
theorem put_th {d j : Nat} (h6 : d ≤ 6) (hj : j ≤ 20) : okTh (putJ d j) := by
  refine ⟨by rw [putJ_len]; omega, fun x hx => ?_⟩
  simp only [putJ, List.mem_map, List.mem_range] at hx
  obtain ⟨k, hk, rfl⟩ := hx
  refine ⟨by unfold inW; dsimp only; omega, by simp [putA]; omega, fun y hy => ?_⟩
  simp only [putA, List.mem_map, List.mem_range] at hy
  obtain ⟨z, hz, rfl⟩ := hy
  unfold inW
  omega
theorem get_th {j : Nat} (hj : j ≤ 20) : okTh (getJ j) := by
  refine ⟨by rw [getJ_len]; omega, fun x hx => ?_⟩
  rw [List.eq_of_mem_replicate hx]
  exact ⟨by unfold inW; dsimp only; omega, by simp, fun y hy => by cases hy⟩
/-- What cellMachine leaves. -/
def CmachPost (c : Cc) (d puts gets : Nat) (w : World) (e : Ending) (w' : World) : Prop := ∃ Aw nw cw gc g6 B tg ts, e = .returned (.tuple #[.agg #[.slice Aw nw cw, .slice (some ⟨gc, 0, none⟩) 2 2, .slice (some ⟨g6, 0, none⟩) 4 4], .bool true]) ∧ Cm c d w' Aw nw cw gc ∧
  Mg 3 49 50 tg w' B g6 4 ts (fun q => if q = 0 then putJ d puts else getJ gets) ∧ w.heap.size ≤ B ∧ Below w.heap.size w w'
theorem cm_th {d puts gets : Nat} (h6 : d ≤ 6) (hp : puts ≤ 20) (hg : gets ≤ 20) : ∀ i, i < 4 → okTh ((fun q => if q = 0 then putJ d puts else getJ gets) i) := by
  intro i _
  by_cases hi : i = 0
  · simp only [hi, if_true]; exact put_th h6 hp
  · simp only [hi, if_false]; exact get_th hg

set_option maxRecDepth 100000 in
set_option maxHeartbeats 2000000 in
theorem keep_cellMachine (c : Cc) (hc : c.Ok) (hM : MaySpec) (hW : CellWordsSpec c) (hP : CellCodeSpec 8 c.cp) (hG : CellCodeSpec 9 c.cg) (w : World) (hT : Tab w) (d puts gets : Nat) (h1 : 1 ≤ d) (h6 : d ≤ 6) (hp : puts ≤ 20) (hg : gets ≤ 20) :
    Calls Tryd.prog 12 #[.int .i64 d, .int .i64 puts, .int .i64 gets] w (CmachPost c d puts gets w) := by
  have hdw : inW (d : Int) := by unfold inW; omega
  have HW := Lib.hid (fun w => hW w d hdw)
  have HP := Lib.hid (fun w hT => hP w hT d hdw)
  have HG := Lib.hid (fun w hT => hG w hT d hdw)
  have HM := Lib.hid hM
  have HT := Lib.hid hT
  have HC := Lib.hid hc
  have bR := Box.newAt w 36 [.slice none 0 0, .slice none 0 0, .slice none 0 0] w.heap.size rfl
  have hA := (Below.refl w.heap.size w).alloc (Nat.le_refl _) (Obj.cells #[.slice none 0 0, .slice none 0 0, .slice none 0 0] 36)
  have lR := bR.lt
  clear hW hP hG hM hT hc hdw
  go_enter Tryd.func12, Tryd.ntmps12
  go_wp2_with fail
  refine (HW.out _).mono ?_
  rintro e w1 ⟨he1, _, hb1⟩
  obtain ⟨Aw, nw, cw, rfl, hlw, hcw, hq1⟩ := he1 (by omega)
  have HB1 := Lib.hid (hA.trans (hb1.mono (Nat.le_of_lt lR)))
  have bR1 := bR.below hb1 lR
  have HQW := Lib.hid hq1
  have lR1 := bR1.lt
  clear he1 hb1 hq1 bR hA
  go_wp2_with fail
  refine (HP.out w1 (HT.out.below HB1.out HT.out.lt)).mono ?_
  rintro e w2 ⟨he2, _, hb2⟩
  obtain ⟨Ap, np, cp, rfl, hlp, hcp, hq2⟩ := he2 (by omega)
  have HB2 := Lib.hid (HB1.out.trans (hb2.mono HB1.out.size))
  have bR2 := bR1.below hb2 lR1
  have HQW2 := Lib.hid (HQW.out.kc (Kc.below (T := fun _ => False) hb2) id)
  have HQP := Lib.hid hq2
  have lR2 := bR2.lt
  clear he2 hb2 hq2 bR1 HQW
  go_wp2_with fail
  refine (HG.out w2 (HT.out.below HB2.out HT.out.lt)).mono ?_
  rintro e w3 ⟨he3, _, hb3⟩
  obtain ⟨Ag, ng, cg, rfl, hlg, hcg, hq3⟩ := he3 (by omega)
  have HB3 := Lib.hid (HB2.out.trans (hb3.mono HB2.out.size))
  have bR3 := bR2.below hb3 lR2
  have HQW3 := Lib.hid (HQW2.out.kc (Kc.below (T := fun _ => False) hb3) id)
  have HQP3 := Lib.hid (HQP.out.kc (Kc.below (T := fun _ => False) hb3) id)
  have HQG := Lib.hid hq3
  have lR3 := bR3.lt
  have hnp : 0 < np := by
    have h := HQP3.out.1
    rw [cellsO_length] at h
    have := (HC.out.cp d h1 h6).1
    rw [Int.toNat_natCast] at h
    omega
  have hng : 0 < ng := by
    have h := HQG.out.1
    rw [cellsO_length] at h
    have := (HC.out.cg d h1 h6).1
    rw [Int.toNat_natCast] at h
    omega
  have ep : ((np : Int) == 0) = false := by simp; omega
  have eg : ((ng : Int) == 0) = false := by simp; omega
  clear he3 hb3 hq3 bR2 HQW2 HQP
  have hL1 := (Below.refl w3.heap.size w3).alloc (Nat.le_refl _) (Obj.cells #[.slice Ap np cp, .slice Ag ng cg] 26)
  have bC := Box.newAt w3 26 [.slice Ap np cp, .slice Ag ng cg] w3.heap.size rfl
  go_wp2_with (at_make; refine make_all eltThr _ rfl _ _ rfl w3.heap.size _ _ _ _ 4 rfl rfl rfl rfl (by omega) (by omega) (by simp) ?_; intro w4 hown4 hbel4 hsz4 hgr4)
  have hX4 := (Below.refl (w3.alloc (Obj.cells #[.slice Ap np cp, .slice Ag ng cg] 26)).heap.size (w3.alloc (Obj.cells #[.slice Ap np cp, .slice Ag ng cg] 26))).grown hgr4 (Nat.le_refl _) (fun k hk => by cases hk)
  rw [madeCells_one _ rfl] at hown4
  have b6 := (own_boxT hown4).1
  have h34 : Below w3.heap.size w3 w4 := hL1.trans (hX4.mono (by simp))
  have hM5 := (Below.refl w4.heap.size w4).alloc (Nat.le_refl _) (Obj.cells #[.slice Aw nw cw, .slice (some ⟨w3.heap.size, 0, none⟩) 2 2, .slice (some ⟨w3.heap.size + 1, 0, none⟩) 4 4] 36)
  have bM := Box.newAt w4 36 [.slice Aw nw cw, .slice (some ⟨w3.heap.size, 0, none⟩) 2 2, .slice (some ⟨w3.heap.size + 1, 0, none⟩) 4 4] w4.heap.size rfl
  have h35 := h34.trans (hM5.mono h34.size)
  have hMg5 : Mg 3 49 50 (fun _ => 0) (w4.alloc (Obj.cells #[.slice Aw nw cw, .slice (some ⟨w3.heap.size, 0, none⟩) 2 2, .slice (some ⟨w3.heap.size + 1, 0, none⟩) 4 4] 36)) w3.heap.size (w3.heap.size + 1) 4 (fun _ => .slice none 0 0) (fun _ => []) :=
    (Mg.made w4 3 49 50 (nt := 4) (by simpa using b6) (Nat.le_succ _)).below hM5
  obtain ⟨w5, hw5⟩ : ∃ w5, w5 = w4.alloc (Obj.cells #[.slice Aw nw cw, .slice (some ⟨w3.heap.size, 0, none⟩) 2 2, .slice (some ⟨w3.heap.size + 1, 0, none⟩) 4 4] 36) := ⟨_, rfl⟩
  rw [← hw5] at hM5 bM h35 hMg5 ⊢
  have HMg5 := Lib.hid hMg5
  have HSZ := Lib.hid HB3.out.size
  have HS5 : Hid (QT w5 3 1 Aw nw ((c.ws d).map (Value.int .i64)) ∧ QT w5 65 5 Ap np (cellsO (c.cp d)) ∧ QT w5 65 5 Ag ng (cellsO (c.cg d)) ∧ Box w5 w3.heap.size 26 [.slice Ap np cp, .slice Ag ng cg] ∧ Box w5 w4.heap.size 36 [.slice Aw nw cw, .slice (some ⟨w3.heap.size, 0, none⟩) 2 2, .slice (some ⟨w3.heap.size + 1, 0, none⟩) 4 4] ∧ Box w5 w.heap.size 36 [.slice none 0 0, .slice none 0 0, .slice none 0 0] ∧ Below w.heap.size w w5) := by
    have k := Kc.below (T := fun _ => False) h35
    have q1 := HQW3.out.kc k id
    have q2 := HQP3.out.kc k id
    have q3 := HQG.out.kc k id
    rw [Int.toNat_natCast] at q1 q2 q3
    exact ⟨q1, q2, q3, bC.below (hX4.trans (hM5.mono hX4.size)) (by simp), bM, bR3.below h35 lR3, HB3.out.trans (h35.mono HB3.out.size)⟩
  clear bC hown4 hbel4 hgr4 hX4 b6 hL1 h34 hM5 bM h35 hMg5 bR3 HB3 HB2 HB1 hw5
  go_loopw [15] (fun i wr => ∃ (j : Nat) (tg : Nat → Nat) (ts : Nat → Value), j ≤ puts ∧ i = .int .i64 j ∧ Hid (Mg 3 49 50 tg wr w3.heap.size (w3.heap.size + 1) 4 ts (fun t => if t = 0 then putJ d j else [])) ∧ Hid (Kc tCall w5 wr) ∧ Below w.heap.size w wr) (fun i _ => puts - (intOf i).toNat)
  case atStart => exact ⟨0, _, _, Nat.zero_le _, rfl, (by have := HMg5.out; show Mg _ _ _ _ _ _ _ _ _ _; rw [show (fun t => if t = 0 then putJ d 0 else []) = fun _ => ([] : List Cl) by funext t; simp [putJ]]; exact this), Kc.refl _ _, HS5.out.2.2.2.2.2.2⟩
  case round =>
    obtain ⟨j, tg, ts, hj, rfl, HMg, HK, hbel⟩ := hrel
    have hK5 := HS5.out
    have bM : Box wr w4.heap.size 36 _ := hK5.2.2.2.2.1.kc HK.out tCall_mach
    have hszr := hbel.size
    by_cases hjp : j < puts
    · obtain ⟨wo, rfl⟩ : ∃ wo, wo = wr := ⟨wr, rfl⟩
      have hI0 : wo.ownsRow wo.heap.size 3 1 (.slice none 0 0) 0 (((List.range 0).map fun k => ((10 * (j + 1) + k : Nat) : Int)).map (Value.int .i64)) := World.ownsRow_nil _ _ _ _
      clear hK5
      go_wp2
      go_loopw [16, 17] (fun v i wr => ∃ k : Nat, k ≤ d ∧ i = .int .i64 k ∧ wr.ownsRow wo.heap.size 3 1 v k (((List.range k).map fun k => ((10 * (j + 1) + k : Nat) : Int)).map (Value.int .i64)) ∧ Below wo.heap.size wo wr) (fun _ i _ => d - (intOf i).toNat)
      case atStart => exact ⟨0, Nat.zero_le _, rfl, hI0, Below.refl _ _⟩
      case round =>
        obtain ⟨k, hk, rfl, hown, hbel2⟩ := hrel
        have hsz2 := hbel2.size
        by_cases hkd : k < d
        · go_wp2_with (at_builtin; go_must (refine app_lit eltIntS wr rfl _ _ rfl wo.heap.size _ k _ rfl (by exact hown) 1 [.int .i64 (10 * ((j : Int) + 1) + k)] wr.heap.size rfl rfl rfl (one_ints _ [_]) (by omega) (by omega) hsz2 ?_); intro v3 w7 hown7 hgr7 hbel7 _)
          go_roundw
          case rel =>
            refine ⟨k + 1, by omega, by go_num, ?_, hbel7 _ hbel2⟩
            rw [List.range_succ, List.map_append, List.map_append, List.map_singleton, List.map_singleton]
            exact hown7
          case measure => simp [intOf]; omega
        · obtain rfl : d = k := by omega
          have HMg2 := Lib.hid (HMg.out.below hbel2)
          have bM2 := bM.below hbel2 bM.lt
          have HKc2 := Lib.hid (HK.out.trans (Kc.below hbel2))
          have hbel3 := hbel.trans (hbel2.mono hszr)
          obtain ⟨A16, c16, rfl, hc16⟩ := own_form hown
          have HQ := Lib.hid (QT.own hown)
          obtain ⟨rows, r1, r2, r3, r4⟩ := HMg2.out.row 0 (by omega)
          rw [if_pos rfl] at r1 r3 r4
          rw [putJ_len] at r1 r3
          obtain ⟨Aq, cq, hts, hlq⟩ := own_form r3
          have z2 : wr.cell? ⟨w4.heap.size, 2, none⟩ = _ := bM2.cell 2
          have f2 := bM2.frozen 2
          have y0 : wr.cell? ⟨w3.heap.size + 1, 0, none⟩ = some (.slice Aq j cq) := by
            have := HMg2.out.thr.cell 0
            rw [range_at _ (by omega), hts] at this
            exact this
          have g0 := HMg2.out.thr.frozen 0
          have l6 := HMg2.out.thr.lt
          have lM := bM2.lt
          have HTS := Lib.hid hts
          have R1 := Lib.hid r1
          have R2 := Lib.hid r2
          have R3 := Lib.hid r3
          have R4 := Lib.hid r4
          have BM2 := Lib.hid bM2
          simp only [List.getElem?_cons_zero, List.getElem?_cons_succ] at z2
          clear hown hts r1 r2 r3 r4 bM2 HMg HK
          go_wp2
          refine region_firstG (Kc tCall) (gok_kc tCall) [0, 1] [2, 3, 4, 5, 6, 7] (.cons 0 (.cons 1 (.cons 8 (.cons 9 (seq [10] (.cons 11 .nil)))))) (by kernel_rfl) (by kernel_rfl) ?_
          simp only [pick, List.map_cons, List.map_nil, List.getD_cons_zero, List.getD_cons_succ]
          go_wp2
          refine ord_blindG (.pointer (some ⟨w4.heap.size, 2, none⟩)) (by kernel_rfl) ?_ ?_
          · intro w' _
            simp only [List.getD_cons_zero, List.getD_cons_succ]
            go_simp
          refine ord_blindG (.slice (some ⟨w3.heap.size + 1, 0, none⟩) 4 4) (by kernel_rfl) ?_ ?_
          · intro w' hk
            have zz := (Box.kc (w := wr.drew) BM2.out hk tCall_mach).cell 2
            simp only [List.getElem?_cons_zero, List.getElem?_cons_succ] at zz
            simp only [List.getD_cons_zero, List.getD_cons_succ]
            go_simp
          refine ord_callG (by kernel_rfl) ?_
          simp only [pick, List.map_cons, List.map_nil, List.getD_cons_zero, List.getD_cons_succ]
          go_wp2
          refine ⟨ext_below ((Below.refl _ _).alloc (Nat.le_refl _) _), ?_⟩
          have RL := Lib.hid (R3.out.alloc (.cells #[.int .i64 0, .slice A16 d c16] 49))
          rw [HTS.out] at RL
          refine ord_finG (by kernel_rfl) ?_
          simp only [pick, List.map_cons, List.map_nil, List.getD_cons_zero, List.getD_cons_succ]
          go_wp2_with (at_builtin; go_must (refine app_litBd eltCall wr rfl (.tmp 85) (.tmp 88) rfl w3.heap.size _ j rows.flatten rfl (by rw [← HTS.out]; exact R3.out) 1 [.int .i64 0, .slice A16 d c16] wr.heap.size rfl rfl rfl (by intro u hu; simp only [List.mem_cons, List.not_mem_nil, or_false] at hu; rcases hu with rfl | rfl <;> rfl) (by omega) (by omega) (by omega) ?_); intro v8 w8 own8 g8 hv8)
          obtain ⟨A8, c8, rfl, hc8⟩ := own_form own8
          have hK8 : Kc tCall (wr.alloc (Obj.cells #[.int .i64 0, .slice A16 d c16] 49)).drew w8 := Kc.grown ⟨g8.os, g8.tape, g8.output, g8.size, g8.block⟩ (fun b cs t fr he hh => .inl (own_same RL.out he hh))
          have hne6 := Box.ne (HMg2.out.thr.alloc (.cells #[.int .i64 0, .slice A16 d c16] 49)) RL.out (by decide)
          have b68 := (HMg2.out.thr.alloc (.cells #[.int .i64 0, .slice A16 d c16] 49)).grown g8 hne6
          obtain ⟨tg', hMg', hKc', hBel'⟩ := HMg2.out.call (q := 0) (c := ⟨0, putA d j⟩) (by omega) ⟨by decide, by decide, by decide⟩ (rows := rows) (by rw [if_pos rfl, putJ_len]; exact R1.out) R2.out R4.out (by rw [if_pos rfl, putJ_len]; exact R3.out) ⟨A16, d, c16, rfl, hc16, HQ.out⟩ own8 (by rw [if_pos rfl, putJ_len]) (by rw [HTS.out]; exact g8) (by rw [HTS.out]; exact hv8)
          have HMg' := Lib.hid hMg'
          have HKc' := Lib.hid hKc'
          have HBel' := Lib.hid (hBel' w w.heap.size (by have := HS5.out.2.2.2.2.2.2.size; omega) (by omega) hbel3)
          have y8 : w8.cell? ⟨w3.heap.size + 1, 0, none⟩ = some (.slice Aq j cq) := by
            have := b68.cell 0
            rw [range_at _ (by omega), HTS.out] at this
            exact this
          have f8 := b68.frozen 0
          have H68 := Lib.hid b68
          clear hMg' hKc' hBel' b68 own8 g8 hv8 hne6 z2 f2 y0 g0
          refine ⟨hK8, ?_⟩
          refine ord_moreG [10] _ (by kernel_rfl) ?_
          simp only [pick, List.map_cons, List.map_nil, List.getD_cons_zero, List.getD_cons_succ]
          go_wp2
          refine ord_finG (by kernel_rfl) ?_
          simp only [pick, List.map_cons, List.map_nil, List.getD_cons_zero, List.getD_cons_succ]
          go_wp2
          have hK9 : Kc tCall w8 (w8.setCell ⟨w3.heap.size + 1, 0, none⟩ (.slice A8 (j + 1) c8)) := Kc.grown (grown_setCell w8 ⟨w3.heap.size + 1, 0, none⟩ _) (fun b cs t fr he hh => by
            injection he with he
            subst he
            have h6 := H68.out
            unfold Box at h6
            rw [h6] at hh
            injection hh with hh
            injection hh with _ hh
            exact .inr hh.symm)
          refine ⟨hK9, ord_doneG ?_⟩
          go_wp2
          refine ⟨⟨j + 1, tg', (fun i => if i = 0 then .slice A8 (j + 1) c8 else ts i), by omega, by go_num, ?_, HKc2.out.trans HKc'.out, HBel'.out⟩, by simp [intOf]; omega⟩
          have := HMg'.out
          show Mg _ _ _ _ _ _ _ _ _ _
          rw [show (fun t => if t = 0 then putJ d (j + 1) else []) = fun i => if i = 0 then (if (0 : Nat) = 0 then putJ d j else []) ++ [⟨0, putA d j⟩] else (fun t => if t = 0 then putJ d j else []) i by
            funext t
            by_cases ht : t = 0
            · simp [ht, putJ_succ]
            · simp [ht]]
          exact this
    · obtain rfl : puts = j := by omega
      have HMg0 : Hid (Mg 3 49 50 tg wr w3.heap.size (w3.heap.size + 1) 4 ts (fun q => if q = 0 then putJ d puts else getJ 0)) := HMg.out
      clear hK5 bM HMg
      go_wp2
      go_loopw [18] (fun i wr => ∃ (j : Nat) (tg : Nat → Nat) (ts : Nat → Value), j ≤ gets ∧ i = .int .i64 j ∧ Hid (Mg 3 49 50 tg wr w3.heap.size (w3.heap.size + 1) 4 ts (fun q => if q = 0 then putJ d puts else getJ j)) ∧ Hid (Kc tCall w5 wr) ∧ Below w.heap.size w wr) (fun i _ => gets - (intOf i).toNat)
      case atStart => exact ⟨0, tg, ts, Nat.zero_le _, rfl, HMg0.out, HK.out, hbel⟩
      case round =>
        clear HMg0 HK hbel hszr
        obtain ⟨j, tg, ts, hj2, rfl, HMg, HK, hbel⟩ := hrel
        have hszr := hbel.size
        by_cases hjg : j < gets
        · have HMg0 : Hid (Mg 3 49 50 tg wr w3.heap.size (w3.heap.size + 1) 4 ts (fun q => if q = 0 then putJ d puts else if q < 1 then getJ (j + 1) else getJ j)) := by
            have := HMg.out
            show Mg _ _ _ _ _ _ _ _ _ _
            rw [show (fun q => if q = 0 then putJ d puts else if q < 1 then getJ (j + 1) else getJ j) = fun q => if q = 0 then putJ d puts else getJ j by
              funext q
              by_cases hq : q = 0
              · simp [hq]
              · rw [if_neg hq, if_neg hq, if_neg (by omega)]]
            exact this
          clear HMg
          go_wp2
          go_loopw [19] (fun i wr => ∃ (t : Nat) (tg : Nat → Nat) (ts : Nat → Value), 1 ≤ t ∧ t ≤ 4 ∧ i = .int .i64 t ∧ Hid (Mg 3 49 50 tg wr w3.heap.size (w3.heap.size + 1) 4 ts (fun q => if q = 0 then putJ d puts else if q < t then getJ (j + 1) else getJ j)) ∧ Hid (Kc tCall w5 wr) ∧ Below w.heap.size w wr) (fun i _ => 4 - (intOf i).toNat)
          case atStart => exact ⟨1, tg, ts, by omega, by omega, rfl, HMg0.out, HK.out, hbel⟩
          case round =>
            clear HMg0 HK hbel hszr
            obtain ⟨t, tg, ts, ht1, ht4, rfl, HMg, HK, hbel⟩ := hrel
            have hszr := hbel.size
            have bM := Lib.hid (HS5.out.2.2.2.2.1.kc HK.out tCall_mach)
            by_cases htt : t < 4
            · have z2 : wr.cell? ⟨w4.heap.size, 2, none⟩ = _ := bM.out.cell 2
              obtain ⟨Tt, hTt⟩ : ∃ Tt : Nat → List Cl, Tt = (fun q => if q = 0 then putJ d puts else if q < t then getJ (j + 1) else getJ j) := ⟨_, rfl⟩
              have HTq : Hid (Tt t = getJ j) := by
                show _ = _
                rw [hTt]
                dsimp only
                rw [if_neg (by omega), if_neg (by omega)]
              have hMg1 := HMg.out
              rw [← hTt] at hMg1
              have HMg := Lib.hid hMg1
              have HTT := Lib.hid hTt
              clear hTt hMg1
              obtain ⟨rows, r1, r2, r3, r4⟩ := HMg.out.row t htt
              have r1' := r1
              have r3' := r3
              rw [HTq.out, getJ_len] at r1' r3'
              obtain ⟨Aq, cq, hts, hlq⟩ := own_form r3'
              have y0 : wr.cell? ⟨w3.heap.size + 1, t, none⟩ = some (.slice Aq j cq) := by
                have := HMg.out.thr.cell t
                rw [range_at _ htt, hts] at this
                exact this
              have l6 := HMg.out.thr.lt
              have lM := bM.out.lt
              have HTS := Lib.hid hts
              have R1 := Lib.hid r1
              have R2 := Lib.hid r2
              have R3 := Lib.hid r3
              have R3' := Lib.hid r3'
              have R4 := Lib.hid r4
              simp only [List.getElem?_cons_zero, List.getElem?_cons_succ] at z2
              clear hts r1 r2 r3 r4 r1' r3'
              go_wp2
              refine region_firstG (Kc tCall) (gok_kc tCall) [0, 1] [2, 3, 4, 5, 6, 7, 8] (.cons 0 (.cons 1 (.cons 9 (.cons 10 (seq [11] (.cons 12 .nil)))))) (by kernel_rfl) (by kernel_rfl) ?_
              simp only [pick, List.map_cons, List.map_nil, List.getD_cons_zero, List.getD_cons_succ]
              go_wp2
              refine ord_blindG (.pointer (some ⟨w4.heap.size, 2, none⟩)) (by kernel_rfl) ?_ ?_
              · intro w' _
                simp only [List.getD_cons_zero, List.getD_cons_succ]
                go_simp
              refine ord_blindG (.slice (some ⟨w3.heap.size + 1, 0, none⟩) 4 4) (by kernel_rfl) ?_ ?_
              · intro w' hk
                have zz := (Box.kc (w := wr.drew) bM.out hk tCall_mach).cell 2
                simp only [List.getElem?_cons_zero, List.getElem?_cons_succ] at zz
                simp only [List.getD_cons_zero, List.getD_cons_succ]
                go_simp
              refine ord_callG (by kernel_rfl) ?_
              simp only [pick, List.map_cons, List.map_nil, List.getD_cons_zero, List.getD_cons_succ]
              go_wp2
              refine ⟨ext_below ((Below.refl _ _).alloc (Nat.le_refl _) _), ?_⟩
              have RL := Lib.hid (R3'.out.alloc (.cells #[.int .i64 1, .slice none 0 0] 49))
              rw [HTS.out] at RL
              refine ord_finG (by kernel_rfl) ?_
              simp only [pick, List.map_cons, List.map_nil, List.getD_cons_zero, List.getD_cons_succ]
              go_wp2_with (at_builtin; go_must (refine app_litBd eltCall wr rfl (.tmp 107) (.tmp 109) rfl w3.heap.size _ j rows.flatten rfl (by rw [← HTS.out]; exact R3'.out) 1 [.int .i64 1, .slice none 0 0] wr.heap.size rfl rfl rfl (by intro u hu; simp only [List.mem_cons, List.not_mem_nil, or_false] at hu; rcases hu with rfl | rfl <;> rfl) (by omega) (by omega) (by omega) ?_); intro v8 w8 own8 g8 hv8)
              obtain ⟨A8, c8, rfl, hc8⟩ := own_form own8
              have hK8 : Kc tCall (wr.alloc (Obj.cells #[.int .i64 1, .slice none 0 0] 49)).drew w8 := Kc.grown ⟨g8.os, g8.tape, g8.output, g8.size, g8.block⟩ (fun b cs t fr he hh => .inl (own_same RL.out he hh))
              have hne6 := Box.ne (HMg.out.thr.alloc (.cells #[.int .i64 1, .slice none 0 0] 49)) RL.out (by decide)
              have b68 := (HMg.out.thr.alloc (.cells #[.int .i64 1, .slice none 0 0] 49)).grown g8 hne6
              obtain ⟨tg', hMg', hKc', hBel'⟩ := HMg.out.call (q := t) (c := ⟨1, []⟩) htt ⟨by decide, by decide, by decide⟩ (rows := rows) R1.out R2.out R4.out R3.out ⟨none, 0, 0, rfl, Nat.le_refl _, QT.nil _ _ _ _⟩ own8 (by rw [HTq.out, getJ_len]) (by rw [HTS.out]; exact g8) (by rw [HTS.out]; exact hv8)
              have HMg' := Lib.hid hMg'
              have HKc' := Lib.hid hKc'
              have HBel' := Lib.hid (hBel' w w.heap.size (by have := HS5.out.2.2.2.2.2.2.size; omega) (by omega) hbel)
              have y8 : w8.cell? ⟨w3.heap.size + 1, t, none⟩ = some (.slice Aq j cq) := by
                have := b68.cell t
                rw [range_at _ htt, HTS.out] at this
                exact this
              have f8 := b68.frozen t
              have H68 := Lib.hid b68
              clear hMg' hKc' hBel' b68 own8 g8 hv8 hne6 z2 y0
              refine ⟨hK8, ?_⟩
              refine ord_moreG [11] _ (by kernel_rfl) ?_
              simp only [pick, List.map_cons, List.map_nil, List.getD_cons_zero, List.getD_cons_succ]
              go_wp2
              refine ord_finG (by kernel_rfl) ?_
              simp only [pick, List.map_cons, List.map_nil, List.getD_cons_zero, List.getD_cons_succ]
              go_wp2
              have hK9 : Kc tCall w8 (w8.setCell ⟨w3.heap.size + 1, t, none⟩ (.slice A8 (j + 1) c8)) := Kc.grown (grown_setCell w8 ⟨w3.heap.size + 1, t, none⟩ _) (fun b cs t fr he hh => by
                injection he with he
                subst he
                have h6 := H68.out
                unfold Box at h6
                rw [h6] at hh
                injection hh with hh
                injection hh with _ hh
                exact .inr hh.symm)
              refine ⟨hK9, ord_doneG ?_⟩
              go_wp2
              refine ⟨⟨t + 1, tg', (fun i => if i = t then .slice A8 (j + 1) c8 else ts i), by omega, by omega, by go_num, ?_, HK.out.trans HKc'.out, HBel'.out⟩, by simp [intOf]; omega⟩
              have := HMg'.out
              rw [HTq.out, ← getJ_succ] at this
              show Mg _ _ _ _ _ _ _ _ _ _
              have e9 : (fun q => if q = 0 then putJ d puts else if q < t + 1 then getJ (j + 1) else getJ j) = fun i => if i = t then getJ (j + 1) else Tt i := by
                rw [HTT.out]
                funext q
                dsimp only
                by_cases hq : q = t
                · rw [if_neg (by omega), if_pos (by omega), if_pos hq]
                · rw [if_neg hq]
                  by_cases hq0 : q = 0
                  · rw [if_pos hq0, if_pos hq0]
                  · rw [if_neg hq0, if_neg hq0]
                    by_cases hqt : q < t
                    · rw [if_pos (by omega), if_pos hqt]
                    · rw [if_neg (by omega), if_neg hqt]
              rw [e9]
              exact this
            · obtain rfl : t = 4 := by omega
              have HMg4 := Lib.hid (HMg.out.congr (T' := fun q => if q = 0 then putJ d puts else getJ (j + 1)) (fun i hi => by
                by_cases hi0 : i = 0
                · rw [if_pos hi0, if_pos hi0]
                · rw [if_neg hi0, if_neg hi0, if_pos hi]))
              clear HMg
              go_wp2
              go_roundw
              case rel => exact ⟨j + 1, tg, ts, by omega, by go_num, HMg4.out, HK.out, hbel⟩
              case measure => simp [intOf]; omega
        · obtain rfl : gets = j := by omega
          have bM := HS5.out.2.2.2.2.1.kc HK.out tCall_mach
          have bR := HS5.out.2.2.2.2.2.1.kc HK.out tCall_mach
          have HCm : Hid (Cm c d wr Aw nw cw w3.heap.size) := ⟨HS5.out.1.kc HK.out tCall_int, ⟨Ap, np, cp, Ag, ng, cg, HS5.out.2.1.kc HK.out tCall_op, HS5.out.2.2.1.kc HK.out tCall_op, HS5.out.2.2.2.1.kc HK.out tCall_code, hlp, hlg⟩, ⟨hlw, hcw⟩⟩
          have hTr := HT.out.below hbel HT.out.lt
          have z0 : wr.cell? ⟨w4.heap.size, 0, none⟩ = _ := bM.cell 0
          have z1 : wr.cell? ⟨w4.heap.size, 1, none⟩ = _ := bM.cell 1
          have z2 : wr.cell? ⟨w4.heap.size, 2, none⟩ = _ := bM.cell 2
          simp only [List.getElem?_cons_zero, List.getElem?_cons_succ] at z0 z1 z2
          have lM := bM.lt
          have lR9 := bR.lt
          go_wp2
          refine region_first [0, 1] (.cons 2 (seq [3, 4] .nil)) (by kernel_rfl) (by kernel_rfl) ?_
          simp only [pick, List.map_cons, List.map_nil, List.getD_cons_zero, List.getD_cons_succ]
          go_wp2
          refine ord_call (by kernel_rfl) ?_
          simp only [pick, List.map_cons, List.map_nil, List.getD_cons_zero, List.getD_cons_succ]
          go_wp2_with fail
          refine (HM.out wr.drew (hTr.below (Below.refl _ _).drew hTr.lt) Aw nw cw (some ⟨w3.heap.size, 0, none⟩) 2 2 (some ⟨w3.heap.size + 1, 0, none⟩) 4 4 (mCell c d puts gets) true ((HCm.out.inM HC.out h1 h6 HMg.out (cm_th h6 hp hg)).below (Below.refl _ _).drew) (by simp; exact mCell_ok HC.out h1 h6 hp hg)).mono ?_
          rintro e w9 ⟨rfl, hb9⟩
          have hx9 := ext_below hb9
          replace hb9 : Below wr.heap.size wr w9 := hb9.undrew
          have hbel9 := hbel.trans (hb9.mono hszr)
          have bR9 := bR.below hb9 lR9
          have x0 : w9.cell? ⟨w.heap.size, 0, none⟩ = _ := bR9.cell 0
          have x1 : w9.cell? ⟨w.heap.size, 1, none⟩ = _ := bR9.cell 1
          have x2 : w9.cell? ⟨w.heap.size, 2, none⟩ = _ := bR9.cell 2
          have f0 := bR9.frozen 0
          have f1 := bR9.frozen 1
          have f2 := bR9.frozen 2
          simp only [List.getElem?_cons_zero, List.getElem?_cons_succ] at x0 x1 x2
          go_wp2
          refine ord_last [3, 4] (by kernel_rfl) ?_
          simp only [pick, List.map_cons, List.map_nil, List.getD_cons_zero, List.getD_cons_succ]
          go_wp2
          refine bodyPost_ret (results_row_tmp rfl _ _ w.heap.size _ _ _ _ rfl (by exact bR9.three _ _ _) Tryd.underlying36 rfl (by kernel_rfl)) rfl ?_
          have hun : Un (fun k => k = w.heap.size) w9 (((w9.setCell ⟨w.heap.size, 0, none⟩ (.slice Aw nw cw)).setCell ⟨w.heap.size, 1, none⟩ (.slice (some ⟨w3.heap.size, 0, none⟩) 2 2)).setCell ⟨w.heap.size, 2, none⟩ (.slice (some ⟨w3.heap.size + 1, 0, none⟩) 4 4)) :=
            un_at (X := fun k => k = w.heap.size) (un_at (X := fun k => k = w.heap.size) (un_at (X := fun k => k = w.heap.size) (Un.refl _ _) rfl _ _) rfl _ _) rfl _ _
          have hty : ∀ b cs t fr, b = w.heap.size → w9.heap[b]? = some (.cells cs t fr) → t = 36 := fun b cs t fr hb hh => by
            subst hb
            have h6 := bR9
            unfold Box at h6
            rw [h6] at hh
            injection hh with hh
            injection hh with _ hh
            exact hh.symm
          refine ⟨Aw, nw, cw, w3.heap.size, w3.heap.size + 1, w3.heap.size, tg, ts, rfl, HCm.out.kc (Kc.trans (Kc.below (T := fun t => t = 36) hb9) (Kc.un hun hty)) (by decide) (by decide) (by decide), (HMg.out.below hb9).un hun (fun b cs t fr hb hh => by rw [hty b cs t fr hb hh]; decide), HSZ.out, ?_⟩
          exact below_at (below_at (below_at hbel9 (Nat.le_refl _) _ _) (Nat.le_refl _) _ _) (Nat.le_refl _) _ _
end Go.Proofs.YtjihopbapnfppabDoor

set_option linter.unusedSimpArgs false
set_option linter.unusedVariables false
namespace Go.Proofs.YtjihopbapnfppabDoor
open Go.RowKit Go.Ord Go.Baro

theorem bool_is (p : Prop) : ∃ r : Bool, r = true ↔ p := ⟨@decide p (Classical.propDecidable p), by simp⟩
/-- A call as a value. -/
def dgV (d : Dg) (v : Value) : Value := .agg #[.int .i64 d.b, .int .i64 d.e, .int .i64 d.th, .int .i64 d.cl, v]
set_option maxHeartbeats 1000000 in
theorem keep_ahead (w : World) (a b : Dg) (va vb : Value) (r : Bool) (hr : r = true ↔ a.e ≠ -1 ∧ a.e < b.b) : Calls Tryd.prog 15 #[dgV a va, dgV b vb] w fun e w' => e = .returned (.bool r) ∧ Below w.heap.size w w' := by
  have HR := Lib.hid hr
  clear hr
  obtain ⟨ab, ae, at_, ac, ao⟩ := a
  obtain ⟨bb, be, bt, bc, bo⟩ := b
  unfold dgV
  dsimp only at HR ⊢
  have hA := ((Below.refl w.heap.size w).alloc (Nat.le_refl _) (Obj.cells #[.int .i64 ab, .int .i64 ae, .int .i64 at_, .int .i64 ac, va] 44)).alloc (by simp) (Obj.cells #[.int .i64 bb, .int .i64 be, .int .i64 bt, .int .i64 bc, vb] 44)
  by_cases h1 : ae = -1
  · subst h1
    go_enter Tryd.func15, Tryd.ntmps15
    go_wp2
    go_ret
    refine ⟨?_, hA⟩
    have := HR.out
    cases r <;> simp at this ⊢
  · have e1 : (ae != -1) = true := by simp [h1]
    have H1 := Lib.hid h1
    clear h1
    go_enter Tryd.func15, Tryd.ntmps15
    go_wp2
    go_ret
    refine ⟨?_, hA⟩
    have := HR.out
    have := H1.out
    cases r <;> simp_all

set_option maxRecDepth 100000 in
set_option maxHeartbeats 2000000 in
theorem keep_spent (w : World) (d : Dg) (v : Value) (A : Option Addr) (n c : Nat) (s : List Int) (hs : RI w w.heap.size .i64 A n s) (hn : n ≤ 6000) (hb : d.b ≤ 6000) (he : d.e = -1 ∨ 0 ≤ d.e) :
    Calls Tryd.prog 16 #[dgV d v, .slice A n c] w fun e w' => e = .returned (.int .i64 (spn s d)) ∧ Below w.heap.size w w' := by
  have HL := Lib.hid hs.len
  obtain ⟨hi, hhi⟩ : ∃ hi, hi = spHi s d := ⟨_, rfl⟩
  have HS : Hid (spn s d = ((s.take hi).drop d.b).count (d.th : Int)) := by rw [hhi]; rfl
  have HH : Hid ((d.e = -1 → hi = n) ∧ (d.e ≠ -1 → hi ≤ n ∧ (hi = n ∨ (hi : Int) = d.e + 1) ∧ (hi : Int) ≤ d.e + 1)) := by
    rw [hhi]
    unfold spHi
    have := HL.out
    constructor
    · intro h; rw [if_pos h]; exact this
    · intro h; rw [if_neg h]; omega
  clear hhi
  obtain ⟨db, de, dt, dc, do_⟩ := d
  unfold dgV
  dsimp only at HS HH hb he ⊢
  have hA := (Below.refl w.heap.size w).alloc (Nat.le_refl _) (Obj.cells #[.int .i64 db, .int .i64 de, .int .i64 dt, .int .i64 dc, v] 44)
  have bX := Box.newAt w 44 [.int .i64 db, .int .i64 de, .int .i64 dt, .int .i64 dc, v] w.heap.size rfl
  have lX := bX.lt
  obtain ⟨wA, hwA⟩ : ∃ wA, wA = w.alloc (Obj.cells #[.int .i64 db, .int .i64 de, .int .i64 dt, .int .i64 dc, v] 44) := ⟨_, rfl⟩
  have HWA := Lib.hid hwA
  go_enter Tryd.func16, Tryd.ntmps16
  go_wp2
  rw [← HWA.out]
  rw [← hwA] at hA bX lX
  clear hwA
  go_loopw [5, 6] (fun c i wr => ∃ (j m : Nat), db ≤ j ∧ (j ≤ hi ∨ j = db) ∧ i = .int .i64 j ∧ c = .int .i64 m ∧ m ≤ j - db ∧ Hid (m = ((s.take j).drop db).count (dt : Int)) ∧ Below wA.heap.size wA wr) (fun _ i _ => 12000 - (intOf i).toNat)
  case atStart => exact ⟨db, 0, Nat.le_refl _, .inr rfl, rfl, rfl, by omega, (by show _ = _; rw [List.drop_eq_nil_of_le (by simp; omega)]; rfl), Below.refl _ _⟩
  case round =>
    obtain ⟨j, m, hj, hjh, rfl, rfl, hmj, HM, hbel⟩ := hrel
    have bX2 := bX.below hbel lX
    have x0 : wr.cell? ⟨w.heap.size, 0, none⟩ = _ := bX2.cell 0
    have x1 : wr.cell? ⟨w.heap.size, 1, none⟩ = _ := bX2.cell 1
    have x2 : wr.cell? ⟨w.heap.size, 2, none⟩ = _ := bX2.cell 2
    simp only [List.getElem?_cons_zero, List.getElem?_cons_succ] at x0 x1 x2
    by_cases hjn : j < n
    · obtain ⟨b, o, x, rfl, hbB, hcell0, HX, hmem⟩ := hs.val hjn
      have hcell : wr.cell? ⟨b, o + j, none⟩ = some (.int .i64 x) := ((hA.trans (hbel.mono hA.size)).cell (p := ⟨b, o + j, none⟩) hbB).trans hcell0
      clear hcell0 hmem
      by_cases h1 : de = -1
      · subst h1
        have HJ : Hid (j + 1 ≤ hi) := by have := HH.out.1 rfl; show _ ≤ _; omega
        by_cases hx : x = (dt : Int)
        · have HXX := Lib.hid hx
          have hxe : (x == (dt : Int)) = true := by simp [hx]
          clear hx
          go_wp2
          refine region_two [0, 1, 2, 3, 4, 5, 6] [] (by kernel_rfl) (by kernel_rfl) ?_
          simp only [pick, List.map_cons, List.map_nil, List.getD_cons_zero, List.getD_cons_succ]
          go_wp2
          go_roundw
          case rel =>
            refine ⟨j + 1, m + 1, by omega, .inl HJ.out, by go_num, by go_num, by omega, ?_, hbel.drew⟩
            show _ = _
            rw [spn_step HX.out hj, ← HM.out, if_pos HXX.out]
          case measure => simp [intOf]; omega
        · have HXX := Lib.hid hx
          have hxe : (x == (dt : Int)) = false := by simp [hx]
          clear hx
          go_wp2
          refine region_two [0, 1, 2, 3, 4, 5, 6] [] (by kernel_rfl) (by kernel_rfl) ?_
          simp only [pick, List.map_cons, List.map_nil, List.getD_cons_zero, List.getD_cons_succ]
          go_wp2
          go_roundw
          case rel =>
            refine ⟨j + 1, m, by omega, .inl HJ.out, by go_num, rfl, by omega, ?_, hbel.drew⟩
            show _ = _
            rw [spn_step HX.out hj, ← HM.out, if_neg HXX.out]
            rfl
          case measure => simp [intOf]; omega
      · have e1 : (de == -1) = false := by simp [h1]
        have H1 := Lib.hid h1
        have hh := HH.out.2 h1
        by_cases h2 : (j : Int) ≤ de
        · have HJ : Hid (j + 1 ≤ hi) := by show _ ≤ _; omega
          clear h1 hh
          by_cases hx : x = (dt : Int)
          · have HXX := Lib.hid hx
            have hxe : (x == (dt : Int)) = true := by simp [hx]
            clear hx
            go_wp2
            refine region_two [0, 1, 2, 3, 4, 5, 6] [] (by kernel_rfl) (by kernel_rfl) ?_
            simp only [pick, List.map_cons, List.map_nil, List.getD_cons_zero, List.getD_cons_succ]
            go_wp2
            go_roundw
            case rel =>
              refine ⟨j + 1, m + 1, by omega, .inl HJ.out, by go_num, by go_num, by omega, ?_, hbel.drew⟩
              show _ = _
              rw [spn_step HX.out hj, ← HM.out, if_pos HXX.out]
            case measure => simp [intOf]; omega
          · have HXX := Lib.hid hx
            have hxe : (x == (dt : Int)) = false := by simp [hx]
            clear hx
            go_wp2
            refine region_two [0, 1, 2, 3, 4, 5, 6] [] (by kernel_rfl) (by kernel_rfl) ?_
            simp only [pick, List.map_cons, List.map_nil, List.getD_cons_zero, List.getD_cons_succ]
            go_wp2
            go_roundw
            case rel =>
              refine ⟨j + 1, m, by omega, .inl HJ.out, by go_num, rfl, by omega, ?_, hbel.drew⟩
              show _ = _
              rw [spn_step HX.out hj, ← HM.out, if_neg HXX.out]
              rfl
            case measure => simp [intOf]; omega
        · have hjj : hi ≤ j := by omega
          clear h1 hh
          have HE := Lib.hid (sp_exit hjh hjj HM.out)
          go_wp2
          go_ret
          exact ⟨by rw [HS.out, ← HE.out]; rfl, hA.trans (hbel.mono hA.size)⟩
    · have hjj : hi ≤ j := by
        by_cases h1 : de = -1
        · have := HH.out.1 h1; omega
        · have := HH.out.2 h1; omega
      have HE := Lib.hid (sp_exit hjh hjj HM.out)
      go_wp2
      go_ret
      exact ⟨by rw [HS.out, ← HE.out]; rfl, hA.trans (hbel.mono hA.size)⟩
end Go.Proofs.YtjihopbapnfppabDoor
