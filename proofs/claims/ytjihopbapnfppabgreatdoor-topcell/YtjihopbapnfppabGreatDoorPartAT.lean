/- Of this claim's own texts these, one behind the other: Cell4, CellOk, TopCellP. No statement of the seat is proved here; no condition but those that stand at the theorems. -/
import Derived.Test.YtjihopbapnfppabGreatDoorPartAS
import Derived.Test.YtjihopbapnfppabGreatDoorPartAI
import Derived.Test.YtjihopbapnfppabGreatDoorPartAN
import Derived.Test.YtjihopbapnfppabGreatDoorPartAO
set_option linter.unusedSimpArgs false
set_option linter.unusedVariables false
namespace Go.Proofs.YtjihopbapnfppabGreatDoor
open Go.RowKit Go.Ord Go.Baro Go.Maps

set_option maxRecDepth 100000 in
set_option maxHeartbeats 4000000 in
theorem cell_Put : CellCodeSpec 5 Cel.cc.cp := by
  intro w hT d hd
  have hd' := hd
  unfold inW at hd'
  by_cases hx : 1 ≤ d ∧ d ≤ 6
  · obtain ⟨n, rfl⟩ : ∃ n : Nat, d = n := ⟨d.toNat, by omega⟩
    have h1 : 1 ≤ n := by omega
    have h6 : n ≤ 6 := by omega
    have HT := Lib.hid hT
    clear hT
    go_enter Tryz.func5, Tryz.ntmps5
    go_wp2_with fail
    refine (cell_valid _ _ hd).mono ?_
    rintro e w' ⟨he, rfl⟩
    rw [decide_eq_true hx] at he
    subst he
    go_wp2_with fail
    refine (cell_numbers _ n h6).mono ?_
    rintro e w1 ⟨A, c, rfl, hc, hqn, hb1⟩
    have HQ := Lib.hid hqn
    clear hqn
    go_wp2_with fail
    refine (asm_New _ A n c (numL n) HQ.out (by omega) (numL_short n) (numL_new n h6)).mono ?_
    rintro e w2 ⟨b, rfl, H⟩
    have HP := Lib.hid H
    clear H
    go_wp2_with fail
    refine (cell_mark_ok _ w1.heap.size b n (Bs.new (numL n)) n HP.out.1 (by omega) h6).mono ?_
    rintro e w3 ⟨rfl, H⟩
    have HP3 := Lib.hid (HP.out.trans H)
    clear H HP
    go_wp2_with fail
    refine (cell_choose_ok _ w1.heap.size b _ (cell_mark n (Bs.new (numL n))) n HP3.out.1 (by omega) h6 (by rw [labs_mark, labs_new]; rfl)).mono ?_
    rintro e w4 ⟨rfl, H⟩
    have HP4 := Lib.hid (HP3.out.trans H)
    clear H HP3
    go_wp2
    go_loopw [23] (fun i wr => ∃ j : Nat, j ≤ n ∧ i = .int .i64 j ∧ Hid (AsmPost w1 w1.heap.size b (putS n j) (n + 47 + 15 + 3 * j) wr)) (fun i _ => n - (intOf i).toNat)
    case atStart => exact ⟨0, Nat.zero_le _, rfl, HP4.out⟩
    case round =>
      obtain ⟨j, hj, rfl, HPj⟩ := hrel
      by_cases hjn : j < n
      · obtain ⟨g, o, l, rfl, hgB, hcell, HXL⟩ := (HQ.out.kc HPj.out.2.1).val hjn
        obtain rfl : l = nmNum j := by have := HXL.out; rw [numL_at hjn] at this; injection this with h; exact h.symm
        go_wp2_with fail
        refine (asm_StoreE _ w1.heap.size b _ (putS n j) (nmNum j) nm_copy _ (8 + (j : Int)) (by first | rfl | omega) HPj.out.1 (by omega) (by show 8 ≤ 1000; omega) (by decide)).mono ?_
        rintro e w5 ⟨rfl, H⟩
        have HP5 := Lib.hid (HPj.out.trans H)
        clear H
        go_wp2
        go_roundw
        case rel =>
          refine ⟨j + 1, by omega, by go_num, ?_⟩
          unfold putS
          rw [List.range_succ, List.foldl_append, show n + 47 + 15 + 3 * (j + 1) = n + 47 + 15 + 3 * j + 3 by omega]
          exact HP5.out
        case measure => simp [intOf]; omega
      · obtain rfl : j = n := by omega
        go_wp2_with fail
        refine (asm_StoreE _ w1.heap.size b _ (putS j j) nm_copy nm_zero _ 6 rfl HPj.out.1 (by omega) (by decide) (by decide)).mono ?_
        rintro e w5 ⟨rfl, H⟩
        have HP5 := Lib.hid (HPj.out.trans H)
        clear H
        go_wp2_with fail
        refine (cell_give_ok _ w1.heap.size b _ ((putS j j).store nm_copy nm_zero 6) HP5.out.1 (by omega)).mono ?_
        rintro e w6 ⟨rfl, H⟩
        have HP6 := Lib.hid (HP5.out.trans H)
        clear H
        obtain ⟨f1, f2, f3⟩ := putB_fin j h1 h6
        have hb6 : Below w.heap.size w w6 := hb1.trans (HP6.out.2.2.mono hb1.size)
        go_wp2_with fail
        refine (asm_Code _ (HT.out.below hb6 HT.out.lt) w1.heap.size b _ (putB j) (Cel.putC j) HP6.out.1 f1 f2 f3).mono ?_
        rintro e w7 ⟨v, rfl, hown, hb7⟩
        obtain ⟨A7, k7, rfl, hk7, hk8⟩ := own_cap hown
        go_wp2
        go_ret2
        exact ⟨fun _ => ⟨_, _, _, rfl, hk7, hk8, QT.own hown⟩, fun h => absurd hx h, hb6.trans (hb7.mono hb6.size)⟩
  · clear hT
    go_enter Tryz.func5, Tryz.ntmps5
    go_wp2_with fail
    refine (cell_valid _ _ hd).mono ?_
    rintro e w' ⟨he, rfl⟩
    rw [decide_eq_false hx] at he
    subst he
    go_wp2
    go_ret2
    exact ⟨fun h => absurd h hx, fun _ => ⟨_, _, rfl⟩, Below.refl _ _⟩
set_option maxRecDepth 100000 in
set_option maxHeartbeats 4000000 in
theorem cell_Get : CellCodeSpec 6 Cel.cc.cg := by
  intro w hT d hd
  have hd' := hd
  unfold inW at hd'
  by_cases hx : 1 ≤ d ∧ d ≤ 6
  · obtain ⟨n, rfl⟩ : ∃ n : Nat, d = n := ⟨d.toNat, by omega⟩
    have h1 : 1 ≤ n := by omega
    have h6 : n ≤ 6 := by omega
    have HT := Lib.hid hT
    clear hT
    go_enter Tryz.func6, Tryz.ntmps6
    go_wp2_with fail
    refine (cell_valid _ _ hd).mono ?_
    rintro e w' ⟨he, rfl⟩
    rw [decide_eq_true hx] at he
    subst he
    go_wp2_with fail
    refine (cell_numbers _ n h6).mono ?_
    rintro e w1 ⟨A, c, rfl, hc, hqn, hb1⟩
    have HQ := Lib.hid hqn
    clear hqn
    go_wp2_with fail
    refine (asm_New _ none 0 0 [] (QT.nil _ _ _ _) (by omega) (by simp) (by simp)).mono ?_
    rintro e w2 ⟨b, rfl, H⟩
    have HP := Lib.hid H
    clear H
    go_wp2_with fail
    refine (cell_sit_ok _ w1.heap.size b 0 (Bs.new []) HP.out.1 (by omega) rfl rfl).mono ?_
    rintro e w3 ⟨rfl, H⟩
    have HP3 := Lib.hid (HP.out.trans H)
    clear H HP
    go_wp2_with fail
    refine (cell_take_ok _ w1.heap.size b _ (cell_sit (Bs.new [])) HP3.out.1 (by omega)).mono ?_
    rintro e w4 ⟨rfl, H⟩
    have HP4 := Lib.hid (HP3.out.trans H)
    clear H HP3
    go_wp2
    go_loopw [20] (fun i wr => ∃ j : Nat, j ≤ n ∧ i = .int .i64 j ∧ Hid (AsmPost w1 w1.heap.size b (getS j) (0 + 21 + 18 + 3 * j) wr)) (fun i _ => n - (intOf i).toNat)
    case atStart => exact ⟨0, Nat.zero_le _, rfl, HP4.out⟩
    case round =>
      obtain ⟨j, hj, rfl, HPj⟩ := hrel
      by_cases hjn : j < n
      · obtain ⟨g, o, l, rfl, hgB, hcell, HXL⟩ := (HQ.out.kc HPj.out.2.1).val hjn
        obtain rfl : l = nmNum j := by have := HXL.out; rw [numL_at hjn] at this; injection this with h; exact h.symm
        go_wp2_with fail
        refine (asm_LoadE _ w1.heap.size b _ (getS j) (nmNum j) nm_copy _ (1 + (j : Int)) (by first | rfl | omega) HPj.out.1 (by omega) (by show 8 ≤ 1000; omega) (by decide)).mono ?_
        rintro e w5 ⟨rfl, H⟩
        have HP5 := Lib.hid (HPj.out.trans H)
        clear H
        go_wp2
        go_roundw
        case rel =>
          refine ⟨j + 1, by omega, by go_num, ?_⟩
          unfold getS
          rw [List.range_succ, List.foldl_append, show 0 + 21 + 18 + 3 * (j + 1) = 0 + 21 + 18 + 3 * j + 3 by omega]
          exact HP5.out
        case measure => simp [intOf]; omega
      · obtain rfl : j = n := by omega
        go_wp2_with fail
        refine (asm_SetE _ w1.heap.size b _ (getS j) nm_free _ 0 rfl HPj.out.1 (by omega) (by decide)).mono ?_
        rintro e w5 ⟨rfl, H⟩
        have HP5 := Lib.hid (HPj.out.trans H)
        clear H
        go_wp2_with fail
        refine (asm_StoreE _ w1.heap.size b _ ((getS j).set nm_free 0) nm_free nm_seat _ 2 rfl HP5.out.1 (by omega) (by decide) (by decide)).mono ?_
        rintro e w6 ⟨rfl, H⟩
        have HP6a := Lib.hid (HP5.out.trans H)
        clear H
        go_wp2_with fail
        refine (asm_Emit _ w1.heap.size b _ (((getS j).set nm_free 0).store nm_free nm_seat 2) A j c (numL j) HP6a.out.1 (by omega) (HQ.out.kc HP6a.out.2.1) (by omega) (numL_short j)).mono ?_
        rintro e w6 ⟨rfl, H⟩
        have HP6 := Lib.hid (HP6a.out.trans H)
        clear H
        obtain ⟨f1, f2, f3⟩ := getB_fin j h1 h6
        have hb6 : Below w.heap.size w w6 := hb1.trans (HP6.out.2.2.mono hb1.size)
        go_wp2_with fail
        refine (asm_Code _ (HT.out.below hb6 HT.out.lt) w1.heap.size b _ (getB j) (Cel.getC j) HP6.out.1 f1 f2 f3).mono ?_
        rintro e w7 ⟨v, rfl, hown, hb7⟩
        obtain ⟨A7, k7, rfl, hk7, hk8⟩ := own_cap hown
        go_wp2
        go_ret2
        exact ⟨fun _ => ⟨_, _, _, rfl, hk7, hk8, QT.own hown⟩, fun h => absurd hx h, hb6.trans (hb7.mono hb6.size)⟩
  · clear hT
    go_enter Tryz.func6, Tryz.ntmps6
    go_wp2_with fail
    refine (cell_valid _ _ hd).mono ?_
    rintro e w' ⟨he, rfl⟩
    rw [decide_eq_false hx] at he
    subst he
    go_wp2
    go_ret2
    exact ⟨fun h => absurd h hx, fun _ => ⟨_, _, rfl⟩, Below.refl _ _⟩
end Go.Proofs.YtjihopbapnfppabGreatDoor

set_option linter.unusedSimpArgs false
set_option linter.unusedVariables false
namespace Go.Proofs.YtjihopbapnfppabGreatDoor
open Go.RowKit Go.Ord Go.Baro
instance (x : Int) : Decidable (inW x) := by unfold inW; infer_instance
instance (o : Ins) : Decidable (inI o) := by unfold inI; infer_instance
theorem cc_ok : Cel.cc.Ok := by
  refine ⟨fun d h1 h6 => ?_, fun d h1 h6 => ?_, fun d h1 h6 => ?_⟩
  · show 0 < (Cel.wsC d).length ∧ (Cel.wsC d).length ≤ 64 ∧ ∀ x ∈ Cel.wsC d, inW x
    refine ⟨by simp [Cel.wsC]; omega, by simp [Cel.wsC]; omega, fun x hx => ?_⟩
    rw [List.eq_of_mem_replicate hx]; unfold inW; omega
  · show 0 < (Cel.putC d).length ∧ okC (Cel.putC d) ∧ ∀ o ∈ Cel.putC d, inI o
    rcases (by omega : d = 1 ∨ d = 2 ∨ d = 3 ∨ d = 4 ∨ d = 5 ∨ d = 6) with rfl | rfl | rfl | rfl | rfl | rfl <;> decide +kernel
  · show 0 < (Cel.getC d).length ∧ okC (Cel.getC d) ∧ ∀ o ∈ Cel.getC d, inI o
    rcases (by omega : d = 1 ∨ d = 2 ∨ d = 3 ∨ d = 4 ∨ d = 5 ∨ d = 6) with rfl | rfl | rfl | rfl | rfl | rfl <;> decide +kernel
end Go.Proofs.YtjihopbapnfppabGreatDoor

set_option linter.unusedSimpArgs false
set_option linter.unusedVariables false
namespace Go.Proofs.YtjihopbapnfppabGreatDoor
open Go.RowKit Go.Ord Go.OrdG Go.Baro

theorem RA_litT (w : World) (e : TypeId) (a : Ac) : RA (w.alloc (.cells #[.int .i64 a.b, .int .i64 a.e, .bool a.put, .int .i64 a.v, .int .i64 a.add] e)) (w.alloc (.cells #[.int .i64 a.b, .int .i64 a.e, .bool a.put, .int .i64 a.v, .int .i64 a.add] e)).heap.size (some ⟨w.heap.size, 0, none⟩) 1 [a] := by
  have h := Rd.lit w e (cs := acV a) (s := 5) (n := 1) rfl
  unfold RA
  simp only [List.flatMap_cons, List.flatMap_nil, List.append_nil]
  exact h
set_option maxRecDepth 100000 in
set_option maxHeartbeats 1000000 in
theorem top_sure (hP : LinCheckSpec) (w : World) : Calls Tryz.prog 10 #[] w fun e w' => e = .returned (.bool true) ∧ Below w.heap.size w w' := by
  have HP := Lib.hid hP
  have h0 := Below.refl w.heap.size w
  have r1 := Lib.hid (RA_litT w 64 ⟨1, 2, false, 0, 0⟩)
  have hb1 := h0.alloc (Nat.le_refl _) (Obj.cells #[.int .i64 1, .int .i64 2, .bool false, .int .i64 0, .int .i64 0] 64)
  clear hP
  go_enter Tryz.func10, Tryz.ntmps10
  go_wp2_with fail
  refine (HP.out _ _ 1 1 [⟨1, 2, false, 0, 0⟩] 1 0 true 0 r1.out (by omega) (Nat.le_refl _) (fun a ha => by rw [List.mem_singleton.1 ha]; unfold inA inW; simp) (by unfold inW; simp) sure1).mono ?_
  rintro e w1 ⟨rfl, hb2⟩
  have hb3 := hb1.trans (hb2.mono hb1.size)
  have hs3 := hb3.size
  have r2 := Lib.hid (RA_litT w1 64 ⟨1, 2, false, 1, 0⟩)
  have hb4 := hb3.alloc hs3 (Obj.cells #[.int .i64 1, .int .i64 2, .bool false, .int .i64 1, .int .i64 0] 64)
  go_wp2_with fail
  refine (HP.out _ _ 1 1 [⟨1, 2, false, 1, 0⟩] 1 0 false 0 r2.out (by omega) (Nat.le_refl _) (fun a ha => by rw [List.mem_singleton.1 ha]; unfold inA inW; simp) (by unfold inW; simp) sure2).mono ?_
  rintro e w2 ⟨rfl, hb5⟩
  have hb6 := hb4.trans (hb5.mono hb4.size)
  go_wp2
  go_ret
  exact ⟨rfl, hb6⟩
set_option maxRecDepth 100000 in
set_option maxHeartbeats 1000000 in
theorem top_pfCell : PfSpec 9 Cel.pfC Cel.goodC := by
  intro w x A A' n c n' c' to b h h' hG hn hn'
  obtain ⟨k, ar⟩ := x
  have h0 := Below.refl w.heap.size w
  have hb1 := h0.alloc (Nat.le_refl _) (Obj.cells #[.int .i64 k, .slice A n c] 36)
  have HL := Lib.hid h.len
  have HL' := Lib.hid h'.len
  dsimp only at h HL
  rcases hG with ⟨hk, ha⟩ | ⟨hk, ha⟩
  · dsimp only at hk ha
    subst hk
    obtain ⟨bb, o, v, rfl, hbB, hc, HX, _⟩ := h.val (i := 0) (by rw [← HL.out]; omega)
    have hv : ar.headD 0 = v := by
      have := HX.out
      cases ar with
      | nil => simp at this
      | cons y l => simp at this; simp [this]
    have HV := Lib.hid hv
    have hn1 : n = 1 := by rw [← HL.out]; exact ha
    subst hn1
    simp only [Nat.zero_add, Nat.add_zero] at hc
    clear h h' hv ha
    go_enter Tryz.func9, Tryz.ntmps9
    go_wp2
    refine region_two [0, 1, 2, 3, 4, 5, 6] [] (by kernel_rfl) (by kernel_rfl) ?_
    simp only [pick, List.map_cons, List.map_nil, List.getD_cons_zero, List.getD_cons_succ]
    go_wp2
    go_ret3
    unfold Cel.pfC
    dsimp only
    rw [if_pos rfl, HV.out]
    exact ⟨rfl, hb1.drew⟩
  · dsimp only at hk ha
    subst hk
    have hn0 : n = 0 := by rw [← HL.out, ha]; rfl
    subst hn0
    clear h
    cases b with
    | false =>
      go_enter Tryz.func9, Tryz.ntmps9
      go_wp2
      go_ret3
      exact ⟨rfl, hb1⟩
    | true =>
      by_cases h1 : n' = 1
      · subst h1
        obtain ⟨bb, o, v, rfl, hbB, hc, HX, _⟩ := h'.val (i := 0) (by omega)
        have hv : to.length = 1 ∧ to.headD 0 = v := by
          have := HX.out
          refine ⟨HL'.out, ?_⟩
          cases to with
          | nil => simp at this
          | cons y l => simp at this; simp [this]
        have HV := Lib.hid hv
        simp only [Nat.zero_add, Nat.add_zero] at hc
        clear h' hv
        go_enter Tryz.func9, Tryz.ntmps9
        go_wp2
        refine region_two [0, 1, 2, 3, 4, 5] [] (by kernel_rfl) (by kernel_rfl) ?_
        simp only [pick, List.map_cons, List.map_nil, List.getD_cons_zero, List.getD_cons_succ]
        go_wp2
        go_ret3
        unfold Cel.pfC
        dsimp only
        rw [if_neg (by omega), if_neg (by simp), if_pos HV.out.1, HV.out.2]
        exact ⟨rfl, hb1.drew⟩
      · have hq : ((n' : Int) == 1) = false := by simp; omega
        have HN := Lib.hid (show ¬ to.length = 1 by rw [HL'.out]; exact h1)
        clear h'
        go_enter Tryz.func9, Tryz.ntmps9
        go_wp2
        go_ret3
        unfold Cel.pfC
        dsimp only
        rw [if_neg (by omega), if_neg (by simp), if_neg HN.out]
        exact ⟨rfl, hb1⟩
/-- The machine of the statement. -/
theorem top_thr (i : Nat) (hi : i < 3) : okTh ((fun t => if t = 0 then Cel.putT 3 else getJ 3) i) := by
  dsimp only
  split
  · refine ⟨by rw [Cel.putT_len]; omega, fun x hx => ?_⟩
    simp only [Cel.putT, List.mem_map, List.mem_range] at hx
    obtain ⟨k, hk, rfl⟩ := hx
    refine ⟨by unfold inW; dsimp only; omega, by simp, fun y hy => ?_⟩
    simp only [List.mem_cons, List.not_mem_nil, or_false] at hy
    subst hy
    unfold inW
    omega
  · refine ⟨by rw [getJ_len]; omega, fun x hx => ?_⟩
    rw [List.eq_of_mem_replicate hx]
    exact ⟨by unfold inW; dsimp only; omega, by simp, fun y hy => by cases hy⟩
theorem top_ok : okMc (Cel.mTop Cel.cc 3) := by
  refine ⟨by show (Cel.wsC 1).length ≤ 200; simp [Cel.wsC], by show 2 ≤ 8; omega, by show 3 ≤ 4; omega, fun x hx => ?_, fun t ht => ?_⟩
  · simp only [Cel.mTop, List.mem_cons, List.not_mem_nil, or_false] at hx
    rcases hx with rfl | rfl
    · exact (cc_ok.cp 1 (by omega) (by omega)).2.1
    · exact (cc_ok.cg 1 (by omega) (by omega)).2.1
  · simp only [Cel.mTop, List.mem_cons, List.not_mem_nil, or_false] at ht
    have key : ∀ x : Cl, (x.k = 0 ∨ x.k = 1) → x.ar.length ≤ 8 → okCl (Cel.mTop Cel.cc 3) x := fun x h h' => ⟨by show 0 ≤ x.k ∧ x.k < ((2 : Nat) : Int); omega, h'⟩
    rcases ht with rfl | rfl | rfl
    · refine ⟨by rw [Cel.putT_len]; omega, fun x hx => ?_⟩
      obtain ⟨k, _, rfl⟩ := List.mem_map.1 hx
      exact key _ (.inl rfl) (by simp)
    · refine ⟨by rw [getJ_len]; omega, fun x hx => ?_⟩
      rw [List.eq_of_mem_replicate hx]
      exact key _ (.inr rfl) (by simp)
    · refine ⟨by rw [getJ_len]; omega, fun x hx => ?_⟩
      rw [List.eq_of_mem_replicate hx]
      exact key _ (.inr rfl) (by simp)
theorem top_inM {w : World} {Aw Ap Ag : Option Addr} {nw cw gc np cp ng cg B g6 : Nat} {tg : Nat → Nat} {ts : Nat → Value} (q1 : QT w 3 1 Aw nw ((Cel.cc.ws 1).map (Value.int .i64))) (q2 : QT w 88 5 Ap np (cellsO (Cel.cc.cp 1))) (q3 : QT w 88 5 Ag ng (cellsO (Cel.cc.cg 1))) (q4 : Box w gc 27 [.slice Ap np cp, .slice Ag ng cg])
    (hm : Mg 3 36 34 tg w B g6 3 ts (fun t => if t = 0 then Cel.putT 3 else getJ 3)) (hlw : nw ≤ cw) (hcw : cw ≤ 9223372036854775807) (hlp : np ≤ cp) (hlg : ng ≤ cg) : InM w Aw nw cw (some ⟨gc, 0, none⟩) 2 2 (some ⟨g6, 0, none⟩) 3 3 (Cel.mTop Cel.cc 3) := by
  have hts : (List.range 3).map (fun t => if t = 0 then Cel.putT 3 else getJ 3) = (Cel.mTop Cel.cc 3).ts := rfl
  refine ⟨q1.rd, ?_, by rw [← hts]; exact hm.rts, (cc_ok.ws 1 (by omega) (by omega)).2.2, ?_, ?_, ⟨hlw, hcw⟩, ⟨by omega, by omega⟩, ⟨by omega, by omega⟩⟩
  · refine rg_box (rows := [[.slice Ap np cp], [.slice Ag ng cg]]) q4 rfl rfl (by simp) fun i r x hr hx => ?_
    match i with
    | 0 =>
      simp [Cel.mTop] at hr hx
      subst hr hx
      exact ⟨Ap, np, cp, rfl, hlp, q2.rd⟩
    | 1 =>
      simp [Cel.mTop] at hr hx
      subst hr hx
      exact ⟨Ag, ng, cg, rfl, hlg, q3.rd⟩
    | i + 2 => simp at hr
  · intro x hx
    simp only [Cel.mTop, List.mem_cons, List.not_mem_nil, or_false] at hx
    rcases hx with rfl | rfl
    · have := (cc_ok.cp 1 (by omega) (by omega)).2
      exact ⟨by have := this.1.1; omega, this.2⟩
    · have := (cc_ok.cg 1 (by omega) (by omega)).2
      exact ⟨by have := this.1.1; omega, this.2⟩
  · intro t ht
    rw [← hts] at ht
    obtain ⟨i, hi, rfl⟩ := List.mem_map.1 ht
    exact top_thr i (List.mem_range.1 hi)
set_option maxRecDepth 100000 in
set_option maxHeartbeats 4000000 in
theorem top_TopCellP (hPl : PlaySpec) (hC : LinCheckSpec) (hW : CellWordsSpec Cel.cc) (hP : CellCodeSpec 5 Cel.cc.cp) (hG : CellCodeSpec 6 Cel.cc.cg) (w : World) (hT : Tab w)
    (A1 : Option Addr) (n1 c1 : Nat) (x1 : List Int) (h1 : RI w w.heap.size .u8 A1 n1 x1) (b1 : n1 ≤ 140737488351232) (r1 : ∀ x ∈ x1, 0 ≤ x ∧ x < 256) (_ : n1 ≤ c1) :
    Calls Tryz.prog 3 #[.slice A1 n1 c1] w fun e w' => e = .returned (.bool true) ∧ Below w.heap.size w w' := by
  have HPl := Lib.hid hPl
  have HC := Lib.hid hC
  have HW := Lib.hid (fun w => hW w 1 (by unfold inW; omega))
  have HP := Lib.hid (fun w hT => hP w hT 1 (by unfold inW; omega))
  have HG := Lib.hid (fun w hT => hG w hT 1 (by unfold inW; omega))
  have HT := Lib.hid hT
  have HX := Lib.hid h1
  have HR1 := Lib.hid r1
  clear hPl hC hW hP hG hT h1 r1
  go_enter Tryz.func3, Tryz.ntmps3
  go_wp2_with fail
  refine (HW.out _).mono ?_
  rintro e w1 ⟨he1, _, hb1⟩
  obtain ⟨Aw, nw, cw, rfl, hlw, hcw, hq1⟩ := he1 (by omega)
  have HQW := Lib.hid hq1
  have HB1 := Lib.hid hb1
  clear he1 hb1 hq1
  go_wp2_with fail
  refine (HP.out w1 (HT.out.below HB1.out HT.out.lt)).mono ?_
  rintro e w2 ⟨he2, _, hb2⟩
  obtain ⟨Ap, np, cp, rfl, hlp, hcp, hq2⟩ := he2 (by omega)
  have HB2 := Lib.hid (HB1.out.trans (hb2.mono HB1.out.size))
  have HQW2 := Lib.hid (HQW.out.kc (Kc.below (T := fun _ => False) hb2) id)
  have HQP := Lib.hid hq2
  clear he2 hb2 hq2 HQW
  go_wp2_with fail
  refine (HG.out w2 (HT.out.below HB2.out HT.out.lt)).mono ?_
  rintro e w3 ⟨he3, _, hb3⟩
  obtain ⟨Ag, ng, cg, rfl, hlg, hcg, hq3⟩ := he3 (by omega)
  have HB3 := Lib.hid (HB2.out.trans (hb3.mono HB2.out.size))
  have HQW3 := Lib.hid (HQW2.out.kc (Kc.below (T := fun _ => False) hb3) id)
  have HQP3 := Lib.hid (HQP.out.kc (Kc.below (T := fun _ => False) hb3) id)
  have HQG := Lib.hid hq3
  clear he3 hb3 hq3 HQW2 HQP
  have hL1 := (Below.refl w3.heap.size w3).alloc (Nat.le_refl _) (Obj.cells #[.slice Ap np cp, .slice Ag ng cg] 27)
  have bC := Box.newAt w3 27 [.slice Ap np cp, .slice Ag ng cg] w3.heap.size rfl
  go_wp2_with (at_make; refine make_all eltThr _ rfl _ _ rfl w3.heap.size _ _ _ _ 3 rfl rfl rfl rfl (by omega) (by omega) (by simp) ?_; intro w4 hown4 hbel4 hsz4 hgr4)
  have hX4 := (Below.refl (w3.alloc (Obj.cells #[.slice Ap np cp, .slice Ag ng cg] 27)).heap.size (w3.alloc (Obj.cells #[.slice Ap np cp, .slice Ag ng cg] 27))).grown hgr4 (Nat.le_refl _) (fun k hk => by cases hk)
  rw [madeCells_one _ rfl] at hown4
  have b6 := (own_boxT hown4).1
  have h34 : Below w3.heap.size w3 w4 := hL1.trans (hX4.mono (by simp))
  have hM5 := (Below.refl w4.heap.size w4).alloc (Nat.le_refl _) (Obj.cells #[.slice Aw nw cw, .slice (some ⟨w3.heap.size, 0, none⟩) 2 2, .slice (some ⟨w3.heap.size + 1, 0, none⟩) 3 3] 33)
  have bM := Box.newAt w4 33 [.slice Aw nw cw, .slice (some ⟨w3.heap.size, 0, none⟩) 2 2, .slice (some ⟨w3.heap.size + 1, 0, none⟩) 3 3] w4.heap.size rfl
  have h35 := h34.trans (hM5.mono h34.size)
  have hMg5 : Mg 3 36 34 (fun _ => 0) (w4.alloc (Obj.cells #[.slice Aw nw cw, .slice (some ⟨w3.heap.size, 0, none⟩) 2 2, .slice (some ⟨w3.heap.size + 1, 0, none⟩) 3 3] 33)) w3.heap.size (w3.heap.size + 1) 3 (fun _ => .slice none 0 0) (fun _ => []) :=
    (Mg.made w4 3 36 34 (nt := 3) (by simpa using b6) (Nat.le_succ _)).below hM5
  obtain ⟨w5, hw5⟩ : ∃ w5, w5 = w4.alloc (Obj.cells #[.slice Aw nw cw, .slice (some ⟨w3.heap.size, 0, none⟩) 2 2, .slice (some ⟨w3.heap.size + 1, 0, none⟩) 3 3] 33) := ⟨_, rfl⟩
  rw [← hw5] at hM5 bM h35 hMg5 ⊢
  have HMg5 := Lib.hid hMg5
  have HSZ := Lib.hid HB3.out.size
  have HS5 : Hid (QT w5 3 1 Aw nw ((Cel.cc.ws 1).map (Value.int .i64)) ∧ QT w5 88 5 Ap np (cellsO (Cel.cc.cp 1)) ∧ QT w5 88 5 Ag ng (cellsO (Cel.cc.cg 1)) ∧ Box w5 w3.heap.size 27 [.slice Ap np cp, .slice Ag ng cg] ∧ Box w5 w4.heap.size 33 [.slice Aw nw cw, .slice (some ⟨w3.heap.size, 0, none⟩) 2 2, .slice (some ⟨w3.heap.size + 1, 0, none⟩) 3 3]) := by
    have k := Kc.below (T := fun _ => False) h35
    exact ⟨HQW3.out.kc k id, HQP3.out.kc k id, HQG.out.kc k id, bC.below (hX4.trans (hM5.mono hX4.size)) (by simp), bM⟩
  have HB5 := Lib.hid (HB3.out.trans (h35.mono HB3.out.size))
  clear bC hown4 hbel4 hgr4 hX4 b6 hL1 h34 hM5 bM h35 hMg5 HB3 HB2 HB1 hw5
  go_loopw [10] (fun i wr => ∃ (j : Nat) (tg : Nat → Nat) (ts : Nat → Value), j ≤ 3 ∧ i = .int .i64 j ∧ Hid (Mg 3 36 34 tg wr w3.heap.size (w3.heap.size + 1) 3 ts (fun t => if t = 0 then Cel.putT j else getJ j)) ∧ Hid (Kc tCall w5 wr) ∧ Below w.heap.size w wr) (fun i _ => 3 - (intOf i).toNat)
  case atStart => exact ⟨0, _, _, Nat.zero_le _, rfl, (by have := HMg5.out; show Mg _ _ _ _ _ _ _ _ _ _; rw [show (fun t => if t = 0 then Cel.putT 0 else getJ 0) = fun _ => ([] : List Cl) by funext t; simp [Cel.putT, getJ]]; exact this), Kc.refl _ _, HB5.out⟩
  case round =>
    obtain ⟨j, tg, ts, hj, rfl, HMg, HK, hbel⟩ := hrel
    have hszr := hbel.size
    have BM0 := Lib.hid (HS5.out.2.2.2.2.kc HK.out tCall_mach)
    by_cases hj3 : j < 3
    · 
        obtain ⟨T0, hT0⟩ : ∃ T0 : Nat → List Cl, T0 = (fun t => if t = 0 then Cel.putT j else getJ j) := ⟨_, rfl⟩
        have HT0 : Hid (T0 0 = Cel.putT j) := by show _ = _; rw [hT0]; rfl
        have HG1 : Hid (T0 1 = getJ j) := by show _ = _; rw [hT0]; rfl
        have HG2 : Hid (T0 2 = getJ j) := by show _ = _; rw [hT0]; rfl
        rw [← hT0] at HMg
        have HTT := Lib.hid hT0
        have HQ1 := Lib.hid (QT.box (s := 1) (n := 1) (Box.newAt wr 3 [.int .i64 ((j : Int) + 5)] wr.heap.size rfl) rfl)
        clear hT0
        obtain ⟨rows1, r1, r2, r3, r4⟩ := HMg.out.row 0 (by omega)
        have r3q := r3
        rw [HT0.out, Cel.putT_len] at r3q
        obtain ⟨Aq1, cq1, hts, hlq⟩ := own_form r3q
        have z2 : wr.cell? ⟨w4.heap.size, 2, none⟩ = _ := BM0.out.cell 2
        have y0 : wr.cell? ⟨(w3.heap.size + 1), 0, none⟩ = some (.slice Aq1 j cq1) := by
          have := HMg.out.thr.cell 0
          rw [range_at _ (by omega), hts] at this
          exact this
        have l6 := HMg.out.thr.lt
        have lM := BM0.out.lt
        have g0 := HMg.out.thr.frozen 0
        have HTS1 := Lib.hid hts
        have R11 := Lib.hid r1
        have R21 := Lib.hid r2
        have R31 := Lib.hid r3
        have R3q1 := Lib.hid r3q
        have R41 := Lib.hid r4
        simp only [List.getElem?_cons_zero, List.getElem?_cons_succ] at z2
        clear hts r1 r2 r3 r4 r3q
        go_wp2
        refine region_firstG (Kc tCall) (gok_kc tCall) [0, 1] [2, 3, 4, 5, 6, 7] (.cons 0 (.cons 1 (.cons 8 (seq [9] (.cons 10 (.cons 11 (seq [12] (.cons 13 .nil)))))))) (by kernel_rfl) (by kernel_rfl) ?_
        simp only [pick, List.map_cons, List.map_nil, List.getD_cons_zero, List.getD_cons_succ]
        go_wp2
        refine ord_blindG (.pointer (some ⟨w4.heap.size, 2, none⟩)) (by kernel_rfl) ?_ ?_
        · intro w' _
          simp only [List.getD_cons_zero, List.getD_cons_succ]
          go_simp
        refine ord_blindG (.slice (some ⟨(w3.heap.size + 1), 0, none⟩) 3 3) (by kernel_rfl) ?_ ?_
        · intro w' hk
          have zz := (Box.kc (w := wr.drew) BM0.out hk tCall_mach).cell 2
          simp only [List.getElem?_cons_zero, List.getElem?_cons_succ] at zz
          simp only [List.getD_cons_zero, List.getD_cons_succ]
          go_simp
        refine ord_callG (by kernel_rfl) ?_
        simp only [pick, List.map_cons, List.map_nil, List.getD_cons_zero, List.getD_cons_succ]
        go_wp2
        refine ⟨ext_below ((Below.refl _ _).alloc (Nat.le_refl _) _), ?_⟩
        refine ord_moreG [9] _ (by kernel_rfl) ?_
        simp only [pick, List.map_cons, List.map_nil, List.getD_cons_zero, List.getD_cons_succ]
        go_wp2
        refine ord_callG (by kernel_rfl) ?_
        simp only [pick, List.map_cons, List.map_nil, List.getD_cons_zero, List.getD_cons_succ]
        go_wp2
        refine ⟨ext_below ((Below.refl _ _).alloc (Nat.le_refl _) _), ?_⟩
        have hbl1 := (Below.refl wr.heap.size wr).alloc (Nat.le_refl _) (Obj.cells #[.int .i64 ((j : Int) + 5)] 3)
        have HMl1 := Lib.hid (HMg.out.below hbl1)
        have HR3q1 := Lib.hid (World.ownsRow.alloc R3q1.out (Obj.cells #[.int .i64 ((j : Int) + 5)] 3))
        have RL1 := Lib.hid (HR3q1.out.alloc (.cells #[.int .i64 0, .slice (some ⟨wr.heap.size, 0, none⟩) 1 1] 36))
        rw [HTS1.out] at RL1
        refine ord_finG (by kernel_rfl) ?_
        simp only [pick, List.map_cons, List.map_nil, List.getD_cons_zero, List.getD_cons_succ]
        go_wp2_with (at_builtin; go_must (refine app_litBd eltCall (wr.alloc (Obj.cells #[.int .i64 ((j : Int) + 5)] 3)) rfl (.tmp 42) (.tmp 47) rfl (w3.heap.size) _ j rows1.flatten rfl (by rw [← HTS1.out]; exact HR3q1.out) 1 [.int .i64 0, .slice (some ⟨wr.heap.size, 0, none⟩) 1 1] (wr.heap.size + 1) (by first | rfl | simp) rfl rfl (by intro u hu; simp only [List.mem_cons, List.not_mem_nil, or_false] at hu; rcases hu with rfl | rfl <;> rfl) (by omega) (by omega) (by first | omega | (simp; omega)) ?_); intro v8 w8 own8 g8 hv8)
        obtain ⟨A81, c81, rfl, hc8⟩ := own_form own8
        have hK8 : Kc tCall ((wr.alloc (Obj.cells #[.int .i64 ((j : Int) + 5)] 3)).alloc (.cells #[.int .i64 0, .slice (some ⟨wr.heap.size, 0, none⟩) 1 1] 36)).drew w8 := Kc.grown ⟨g8.os, g8.tape, g8.output, g8.size, g8.block⟩ (fun b cs t fr he hh => .inl (own_same RL1.out he hh))
        have hne6 := Box.ne (HMl1.out.thr.alloc (.cells #[.int .i64 0, .slice (some ⟨wr.heap.size, 0, none⟩) 1 1] 36)) RL1.out (by decide)
        have b68 := (HMl1.out.thr.alloc (.cells #[.int .i64 0, .slice (some ⟨wr.heap.size, 0, none⟩) 1 1] 36)).grown g8 hne6
        obtain ⟨tg1, hMg', hKc', hBel'⟩ := HMl1.out.call (q := 0) (c := ⟨0, [((j + 5 : Nat) : Int)]⟩) (by omega) ⟨by decide, by decide, by decide⟩ (rows := rows1) R11.out R21.out (fun i r x hr hx => (R41.out i r x hr hx).kc (T := fun _ => False) (Kc.below hbl1) id) (World.ownsRow.alloc R31.out _) ⟨some ⟨wr.heap.size, 0, none⟩, 1, 1, rfl, Nat.le_refl _, HQ1.out⟩ own8 (by rw [HT0.out, Cel.putT_len]) (by rw [HTS1.out]; exact g8) (by rw [HTS1.out]; exact hv8)
        have HMg' := Lib.hid hMg'
        have HKc' := Lib.hid ((Kc.below (T := tCall) hbl1).trans hKc')
        have hbel1a := hbel.trans (hbl1.mono hbel.size)
        have HBel' := Lib.hid (hBel' w w.heap.size (by have := HSZ.out; omega) (by first | omega | (simp; omega)) hbel1a)
        have y8 : w8.cell? ⟨(w3.heap.size + 1), 0, none⟩ = some (.slice Aq1 j cq1) := by
          have := b68.cell 0
          rw [range_at _ (by omega), HTS1.out] at this
          exact this
        have f8 := b68.frozen 0
        have H68 := Lib.hid b68
        clear hMg' hKc' hBel' b68 own8 g8 hv8 hne6 z2 y0 g0
        refine ⟨hK8, ?_⟩
        refine ord_moreG [12] _ (by kernel_rfl) ?_
        simp only [pick, List.map_cons, List.map_nil, List.getD_cons_zero, List.getD_cons_succ]
        go_wp2
        refine ord_finG (by kernel_rfl) ?_
        simp only [pick, List.map_cons, List.map_nil, List.getD_cons_zero, List.getD_cons_succ]
        go_wp2
        have hK9 : Kc tCall w8 (w8.setCell ⟨(w3.heap.size + 1), 0, none⟩ (.slice A81 (j + 1) c81)) := Kc.grown (grown_setCell w8 ⟨(w3.heap.size + 1), 0, none⟩ _) (fun b cs t fr he hh => by
          injection he with he
          subst he
          have h6 := H68.out
          unfold Box at h6
          rw [h6] at hh
          injection hh with hh
          injection hh with _ hh
          exact .inr hh.symm)
        refine ⟨hK9, ord_doneG ?_⟩
        obtain ⟨W1, hW1⟩ : ∃ W, W = w8.setCell ⟨(w3.heap.size + 1), 0, none⟩ (.slice A81 (j + 1) c81) := ⟨_, rfl⟩
        rw [← hW1]
        have HMg1 := HMg'
        have HK1 := Lib.hid (HK.out.trans HKc'.out)
        have hbel1 := HBel'.out
        rw [← hW1] at HMg1 HK1 hbel1
        clear HMg' HKc' HBel' hK9 H68 y8 f8 hK8 hW1 R11 R21 R31 R3q1 R41 RL1 HTS1 HMl1 HR3q1
        obtain ⟨T1, hT1⟩ : ∃ T : Nat → List Cl, T = fun i => if i = 0 then T0 0 ++ [⟨0, [((j + 5 : Nat) : Int)]⟩] else T0 i := ⟨_, rfl⟩
        have HMg1s := HMg1.out
        rw [← hT1] at HMg1s
        have HMg1t := Lib.hid HMg1s
        clear HMg1s
        have HT1 : Hid (T1 1 = getJ j) := by show _ = _; rw [hT1]; dsimp only; rw [if_neg (by omega)]; exact HG1.out
        have BM1 := Lib.hid (HS5.out.2.2.2.2.kc HK1.out tCall_mach)
        have hszr1 := hbel1.size
        clear HMg1
        obtain ⟨rows2, r1, r2, r3, r4⟩ := HMg1t.out.row 1 (by omega)
        have r3q := r3
        rw [HT1.out, getJ_len] at r3q
        obtain ⟨Aq2, cq2, hts, hlq⟩ := own_form r3q
        have z2 : W1.cell? ⟨w4.heap.size, 2, none⟩ = _ := BM1.out.cell 2
        have y0 : W1.cell? ⟨(w3.heap.size + 1), 1, none⟩ = some (.slice Aq2 j cq2) := by
          have := HMg1t.out.thr.cell 1
          rw [range_at _ (by omega), hts] at this
          exact this
        have l6 := HMg1t.out.thr.lt
        have lM := BM1.out.lt
        have g0 := HMg1t.out.thr.frozen 1
        have HTS2 := Lib.hid hts
        have R12 := Lib.hid r1
        have R22 := Lib.hid r2
        have R32 := Lib.hid r3
        have R3q2 := Lib.hid r3q
        have R42 := Lib.hid r4
        simp only [List.getElem?_cons_zero, List.getElem?_cons_succ] at z2
        clear hts r1 r2 r3 r4 r3q
        go_wp2
        refine region_firstG (Kc tCall) (gok_kc tCall) [0, 1] [2, 3, 4, 5, 6] (.cons 0 (.cons 1 (.cons 7 (.cons 8 (seq [9] (.cons 10 .nil)))))) (by kernel_rfl) (by kernel_rfl) ?_
        simp only [pick, List.map_cons, List.map_nil, List.getD_cons_zero, List.getD_cons_succ]
        go_wp2
        refine ord_blindG (.pointer (some ⟨w4.heap.size, 2, none⟩)) (by kernel_rfl) ?_ ?_
        · intro w' _
          simp only [List.getD_cons_zero, List.getD_cons_succ]
          go_simp
        refine ord_blindG (.slice (some ⟨(w3.heap.size + 1), 0, none⟩) 3 3) (by kernel_rfl) ?_ ?_
        · intro w' hk
          have zz := (Box.kc (w := W1.drew) BM1.out hk tCall_mach).cell 2
          simp only [List.getElem?_cons_zero, List.getElem?_cons_succ] at zz
          simp only [List.getD_cons_zero, List.getD_cons_succ]
          go_simp
        refine ord_callG (by kernel_rfl) ?_
        simp only [pick, List.map_cons, List.map_nil, List.getD_cons_zero, List.getD_cons_succ]
        go_wp2
        refine ⟨ext_below ((Below.refl _ _).alloc (Nat.le_refl _) _), ?_⟩
        have HMl2 := HMg1t
        have HR3q2 := R3q2
        have RL2 := Lib.hid (HR3q2.out.alloc (.cells #[.int .i64 1, .slice none 0 0] 36))
        rw [HTS2.out] at RL2
        refine ord_finG (by kernel_rfl) ?_
        simp only [pick, List.map_cons, List.map_nil, List.getD_cons_zero, List.getD_cons_succ]
        go_wp2_with (at_builtin; go_must (refine app_litBd eltCall W1 rfl (.tmp 55) (.tmp 57) rfl (w3.heap.size) _ j rows2.flatten rfl (by rw [← HTS2.out]; exact HR3q2.out) 1 [.int .i64 1, .slice none 0 0] W1.heap.size (by first | rfl | simp) rfl rfl (by intro u hu; simp only [List.mem_cons, List.not_mem_nil, or_false] at hu; rcases hu with rfl | rfl <;> rfl) (by omega) (by omega) (by first | omega | (simp; omega)) ?_); intro v8 w8 own8 g8 hv8)
        obtain ⟨A82, c82, rfl, hc8⟩ := own_form own8
        have hK8 : Kc tCall (W1.alloc (.cells #[.int .i64 1, .slice none 0 0] 36)).drew w8 := Kc.grown ⟨g8.os, g8.tape, g8.output, g8.size, g8.block⟩ (fun b cs t fr he hh => .inl (own_same RL2.out he hh))
        have hne6 := Box.ne (HMl2.out.thr.alloc (.cells #[.int .i64 1, .slice none 0 0] 36)) RL2.out (by decide)
        have b68 := (HMl2.out.thr.alloc (.cells #[.int .i64 1, .slice none 0 0] 36)).grown g8 hne6
        obtain ⟨tg2, hMg', hKc', hBel'⟩ := HMl2.out.call (q := 1) (c := ⟨1, []⟩) (by omega) ⟨by decide, by decide, by decide⟩ (rows := rows2) R12.out R22.out R42.out R32.out ⟨none, 0, 0, rfl, Nat.le_refl _, QT.nil _ _ _ _⟩ own8 (by rw [HT1.out, getJ_len]) (by rw [HTS2.out]; exact g8) (by rw [HTS2.out]; exact hv8)
        have HMg' := Lib.hid hMg'
        have HKc' := Lib.hid hKc'
        have hbel2a := hbel1
        have HBel' := Lib.hid (hBel' w w.heap.size (by have := HSZ.out; omega) (by first | omega | (simp; omega)) hbel2a)
        have y8 : w8.cell? ⟨(w3.heap.size + 1), 1, none⟩ = some (.slice Aq2 j cq2) := by
          have := b68.cell 1
          rw [range_at _ (by omega), HTS2.out] at this
          exact this
        have f8 := b68.frozen 1
        have H68 := Lib.hid b68
        clear hMg' hKc' hBel' b68 own8 g8 hv8 hne6 z2 y0 g0
        refine ⟨hK8, ?_⟩
        refine ord_moreG [9] _ (by kernel_rfl) ?_
        simp only [pick, List.map_cons, List.map_nil, List.getD_cons_zero, List.getD_cons_succ]
        go_wp2
        refine ord_finG (by kernel_rfl) ?_
        simp only [pick, List.map_cons, List.map_nil, List.getD_cons_zero, List.getD_cons_succ]
        go_wp2
        have hK9 : Kc tCall w8 (w8.setCell ⟨(w3.heap.size + 1), 1, none⟩ (.slice A82 (j + 1) c82)) := Kc.grown (grown_setCell w8 ⟨(w3.heap.size + 1), 1, none⟩ _) (fun b cs t fr he hh => by
          injection he with he
          subst he
          have h6 := H68.out
          unfold Box at h6
          rw [h6] at hh
          injection hh with hh
          injection hh with _ hh
          exact .inr hh.symm)
        refine ⟨hK9, ord_doneG ?_⟩
        obtain ⟨W2, hW2⟩ : ∃ W, W = w8.setCell ⟨(w3.heap.size + 1), 1, none⟩ (.slice A82 (j + 1) c82) := ⟨_, rfl⟩
        rw [← hW2]
        have HMg2 := HMg'
        have HK2 := Lib.hid (HK1.out.trans HKc'.out)
        have hbel2 := HBel'.out
        rw [← hW2] at HMg2 HK2 hbel2
        clear HMg' HKc' HBel' hK9 H68 y8 f8 hK8 hW2 R12 R22 R32 R3q2 R42 RL2 HTS2 HMl2 HR3q2
        obtain ⟨T2, hT2⟩ : ∃ T : Nat → List Cl, T = fun i => if i = 1 then T1 1 ++ [⟨1, []⟩] else T1 i := ⟨_, rfl⟩
        have HMg2s := HMg2.out
        rw [← hT2] at HMg2s
        have HMg2t := Lib.hid HMg2s
        clear HMg2s
        have HT2 : Hid (T2 2 = getJ j) := by show _ = _; rw [hT2]; dsimp only; rw [if_neg (by omega), hT1]; dsimp only; rw [if_neg (by omega)]; exact HG2.out
        have BM2 := Lib.hid (HS5.out.2.2.2.2.kc HK2.out tCall_mach)
        have hszr2 := hbel2.size
        clear HMg2
        obtain ⟨rows3, r1, r2, r3, r4⟩ := HMg2t.out.row 2 (by omega)
        have r3q := r3
        rw [HT2.out, getJ_len] at r3q
        obtain ⟨Aq3, cq3, hts, hlq⟩ := own_form r3q
        have z2 : W2.cell? ⟨w4.heap.size, 2, none⟩ = _ := BM2.out.cell 2
        have y0 : W2.cell? ⟨(w3.heap.size + 1), 2, none⟩ = some (.slice Aq3 j cq3) := by
          have := HMg2t.out.thr.cell 2
          rw [range_at _ (by omega), hts] at this
          exact this
        have l6 := HMg2t.out.thr.lt
        have lM := BM2.out.lt
        have g0 := HMg2t.out.thr.frozen 2
        have HTS3 := Lib.hid hts
        have R13 := Lib.hid r1
        have R23 := Lib.hid r2
        have R33 := Lib.hid r3
        have R3q3 := Lib.hid r3q
        have R43 := Lib.hid r4
        simp only [List.getElem?_cons_zero, List.getElem?_cons_succ] at z2
        clear hts r1 r2 r3 r4 r3q
        go_wp2
        refine region_firstG (Kc tCall) (gok_kc tCall) [0, 1] [2, 3, 4, 5, 6] (.cons 0 (.cons 1 (.cons 7 (.cons 8 (seq [9] (.cons 10 .nil)))))) (by kernel_rfl) (by kernel_rfl) ?_
        simp only [pick, List.map_cons, List.map_nil, List.getD_cons_zero, List.getD_cons_succ]
        go_wp2
        refine ord_blindG (.pointer (some ⟨w4.heap.size, 2, none⟩)) (by kernel_rfl) ?_ ?_
        · intro w' _
          simp only [List.getD_cons_zero, List.getD_cons_succ]
          go_simp
        refine ord_blindG (.slice (some ⟨(w3.heap.size + 1), 0, none⟩) 3 3) (by kernel_rfl) ?_ ?_
        · intro w' hk
          have zz := (Box.kc (w := W2.drew) BM2.out hk tCall_mach).cell 2
          simp only [List.getElem?_cons_zero, List.getElem?_cons_succ] at zz
          simp only [List.getD_cons_zero, List.getD_cons_succ]
          go_simp
        refine ord_callG (by kernel_rfl) ?_
        simp only [pick, List.map_cons, List.map_nil, List.getD_cons_zero, List.getD_cons_succ]
        go_wp2
        refine ⟨ext_below ((Below.refl _ _).alloc (Nat.le_refl _) _), ?_⟩
        have HMl3 := HMg2t
        have HR3q3 := R3q3
        have RL3 := Lib.hid (HR3q3.out.alloc (.cells #[.int .i64 1, .slice none 0 0] 36))
        rw [HTS3.out] at RL3
        refine ord_finG (by kernel_rfl) ?_
        simp only [pick, List.map_cons, List.map_nil, List.getD_cons_zero, List.getD_cons_succ]
        go_wp2_with (at_builtin; go_must (refine app_litBd eltCall W2 rfl (.tmp 65) (.tmp 67) rfl (w3.heap.size) _ j rows3.flatten rfl (by rw [← HTS3.out]; exact HR3q3.out) 1 [.int .i64 1, .slice none 0 0] W2.heap.size (by first | rfl | simp) rfl rfl (by intro u hu; simp only [List.mem_cons, List.not_mem_nil, or_false] at hu; rcases hu with rfl | rfl <;> rfl) (by omega) (by omega) (by first | omega | (simp; omega)) ?_); intro v8 w8 own8 g8 hv8)
        obtain ⟨A83, c83, rfl, hc8⟩ := own_form own8
        have hK8 : Kc tCall (W2.alloc (.cells #[.int .i64 1, .slice none 0 0] 36)).drew w8 := Kc.grown ⟨g8.os, g8.tape, g8.output, g8.size, g8.block⟩ (fun b cs t fr he hh => .inl (own_same RL3.out he hh))
        have hne6 := Box.ne (HMl3.out.thr.alloc (.cells #[.int .i64 1, .slice none 0 0] 36)) RL3.out (by decide)
        have b68 := (HMl3.out.thr.alloc (.cells #[.int .i64 1, .slice none 0 0] 36)).grown g8 hne6
        obtain ⟨tg3, hMg', hKc', hBel'⟩ := HMl3.out.call (q := 2) (c := ⟨1, []⟩) (by omega) ⟨by decide, by decide, by decide⟩ (rows := rows3) R13.out R23.out R43.out R33.out ⟨none, 0, 0, rfl, Nat.le_refl _, QT.nil _ _ _ _⟩ own8 (by rw [HT2.out, getJ_len]) (by rw [HTS3.out]; exact g8) (by rw [HTS3.out]; exact hv8)
        have HMg' := Lib.hid hMg'
        have HKc' := Lib.hid hKc'
        have hbel3a := hbel2
        have HBel' := Lib.hid (hBel' w w.heap.size (by have := HSZ.out; omega) (by first | omega | (simp; omega)) hbel3a)
        have y8 : w8.cell? ⟨(w3.heap.size + 1), 2, none⟩ = some (.slice Aq3 j cq3) := by
          have := b68.cell 2
          rw [range_at _ (by omega), HTS3.out] at this
          exact this
        have f8 := b68.frozen 2
        have H68 := Lib.hid b68
        clear hMg' hKc' hBel' b68 own8 g8 hv8 hne6 z2 y0 g0
        refine ⟨hK8, ?_⟩
        refine ord_moreG [9] _ (by kernel_rfl) ?_
        simp only [pick, List.map_cons, List.map_nil, List.getD_cons_zero, List.getD_cons_succ]
        go_wp2
        refine ord_finG (by kernel_rfl) ?_
        simp only [pick, List.map_cons, List.map_nil, List.getD_cons_zero, List.getD_cons_succ]
        go_wp2
        have hK9 : Kc tCall w8 (w8.setCell ⟨(w3.heap.size + 1), 2, none⟩ (.slice A83 (j + 1) c83)) := Kc.grown (grown_setCell w8 ⟨(w3.heap.size + 1), 2, none⟩ _) (fun b cs t fr he hh => by
          injection he with he
          subst he
          have h6 := H68.out
          unfold Box at h6
          rw [h6] at hh
          injection hh with hh
          injection hh with _ hh
          exact .inr hh.symm)
        refine ⟨hK9, ord_doneG ?_⟩
        obtain ⟨W3, hW3⟩ : ∃ W, W = w8.setCell ⟨(w3.heap.size + 1), 2, none⟩ (.slice A83 (j + 1) c83) := ⟨_, rfl⟩
        rw [← hW3]
        have HMg3 := HMg'
        have HK3 := Lib.hid (HK2.out.trans HKc'.out)
        have hbel3 := HBel'.out
        rw [← hW3] at HMg3 HK3 hbel3
        clear HMg' HKc' HBel' hK9 H68 y8 f8 hK8 hW3 R13 R23 R33 R3q3 R43 RL3 HTS3 HMl3 HR3q3
        have HT1q := Lib.hid hT1
        have HT2q := Lib.hid hT2
        clear hT1 hT2
        go_wp2
        go_roundw
        case rel =>
          have h9 := HMg3.out.congr (T' := fun t => if t = 0 then Cel.putT (j + 1) else getJ (j + 1)) (fun i hi => by
            rw [HT2q.out, HT1q.out, HTT.out]
            rcases (by omega : i = 0 ∨ i = 1 ∨ i = 2) with rfl | rfl | rfl
            · simp [Cel.putT, List.range_succ]
            · simp [getJ_succ]
            · simp [getJ_succ])
          exact ⟨j + 1, tg3, _, by omega, by go_num, h9, HK3.out, hbel3⟩
        case measure => simp [intOf]; omega
    · obtain rfl : j = 3 := by omega
      have z0 : wr.cell? ⟨w4.heap.size, 0, none⟩ = _ := BM0.out.cell 0
      have z1 : wr.cell? ⟨w4.heap.size, 1, none⟩ = _ := BM0.out.cell 1
      have z2 : wr.cell? ⟨w4.heap.size, 2, none⟩ = _ := BM0.out.cell 2
      simp only [List.getElem?_cons_zero, List.getElem?_cons_succ] at z0 z1 z2
      have lM := BM0.out.lt
      have HIM := Lib.hid (top_inM (HS5.out.1.kc HK.out tCall_int) (HS5.out.2.1.kc HK.out tCall_op) (HS5.out.2.2.1.kc HK.out tCall_op) (HS5.out.2.2.2.1.kc HK.out tCall_code) HMg.out hlw hcw hlp hlg)
      have HTr := Lib.hid (HT.out.below hbel HT.out.lt)
      clear HMg HK BM0
      go_wp2
      refine region_first [0, 1] (.cons 2 (seq [3, 4, 5, 6, 7, 8] .nil)) (by kernel_rfl) (by kernel_rfl) ?_
      simp only [pick, List.map_cons, List.map_nil, List.getD_cons_zero, List.getD_cons_succ]
      go_wp2
      refine ord_call (by kernel_rfl) ?_
      simp only [pick, List.map_cons, List.map_nil, List.getD_cons_zero, List.getD_cons_succ]
      go_wp2_with fail
      refine (keep_ScheduleG x1 A1 n1 c1 wr.drew 3 500 (by omega) (by omega) (by omega) ((HX.out.below (hbel.drew)).more hbel.drew.size) (by omega) HR1.out).mono ?_
      rintro e w8 ⟨v, n', rfl, hown, hn', hb8⟩
      obtain ⟨As, cs, rfl, hls⟩ := own_form hown
      have hx8 := ext_below hb8
      have hb8' : Below wr.heap.size wr w8 := hb8.undrew
      have hbel8 := hbel.trans (hb8'.mono hszr)
      go_wp2
      have HIM8 := Lib.hid (HIM.out.below hb8')
      have HRS := Lib.hid (show RI w8 w8.heap.size .i64 As n' (schG 3 500 x1) from Rd.of_own hown)
      have HT8 := Lib.hid (HTr.out.below hb8' HTr.out.lt)
      have hS : ∀ x ∈ schG 3 500 x1, 0 ≤ x ∧ x < 3 := fun x hx => by have := schG_in (k := 3) (most := 500) (l := x1) (by omega) hx; omega
      have hSl : (schG 3 500 x1).length ≤ 500 := by rw [schG_len]; omega
      obtain ⟨p1, p2, p3, p4⟩ := Cel.cell_top ((schG 3 500 x1).map Int.toNat) (by rw [List.length_map]; exact hSl) (fun n hn => by obtain ⟨x, hx, rfl⟩ := List.mem_map.1 hn; have := hS x hx; omega)
      have hSl6 : (schG 3 500 x1).length ≤ 6000 := Nat.le_trans hSl (by decide)
      have HP2 := Lib.hid p2
      have HP3 := Lib.hid p3
      have HP4 := Lib.hid p4
      have HPR : Hid (PlR (Cel.mTop Cel.cc 3) (schG 3 500 x1) (plyG (Cel.mTop Cel.cc 3) 0 ((schG 3 500 x1).map Int.toNat) (g0 (Cel.mTop Cel.cc 3))).out (plyG (Cel.mTop Cel.cc 3) 0 ((schG 3 500 x1).map Int.toNat) (g0 (Cel.mTop Cel.cc 3))).w 0) :=
        .inr (.inr (.inr ⟨top_ok, hSl6, fun x hx => hS x hx, rfl, rfl, rfl⟩))
      clear p1 p2 p3 p4 hS hSl hSl6 hown hb8 z0 z1 z2 HIM HTr
      refine ord_last [3, 4, 5, 6, 7, 8] (by kernel_rfl) ?_
      simp only [pick, List.map_cons, List.map_nil, List.getD_cons_zero, List.getD_cons_succ]
      go_wp2_with fail
      refine (top_history HPl.out top_pfCell (fun _ _ => by kernel_rfl) w8 HT8.out Aw nw cw (some ⟨w3.heap.size, 0, none⟩) 2 2 (some ⟨w3.heap.size + 1, 0, none⟩) 3 3 (Cel.mTop Cel.cc 3) As n' cs (schG 3 500 x1) _ _ HIM8.out top_ok HRS.out (by omega) HPR.out HP2.out).mono ?_
      rintro e w9 ⟨A9, n9, c9, rfl, hlc9, hn9, hra, hb9⟩
      have HRA := Lib.hid hra
      have hbel9 := hbel8.trans (hb9.mono hbel8.size)
      clear hra hb9
      go_wp2_with fail
      refine (top_sure HC.out _).mono ?_
      rintro e w10 ⟨rfl, hb10⟩
      have hbel10 := hbel9.trans (hb10.mono hbel9.size)
      have HRA10 := Lib.hid ((HRA.out.below hb10).more hb10.size)
      clear hb10 HRA
      go_wp2_with fail
      refine (HC.out w10 A9 n9 c9 _ 1 0 true 0 HRA10.out (by omega) hlc9 HP3.out.2 (by unfold inW; omega) (.inr ⟨HP3.out.1, ⟨fun _ => HP4.out, fun _ => rfl⟩, rfl⟩)).mono ?_
      rintro e w11 ⟨rfl, hb11⟩
      go_wp2
      go_ret
      exact ⟨rfl, hbel10.trans (hb11.mono hbel10.size)⟩
end Go.Proofs.YtjihopbapnfppabGreatDoor
