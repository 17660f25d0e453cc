/- Of this claim's own texts these, one behind the other: Cell4, CellOk. No statement of the seat is proved here; no condition but those that stand at the theorems. -/
import Derived.Test.YtjihopbapnfppabDoorPartAZ
set_option linter.unusedSimpArgs false
set_option linter.unusedVariables false
namespace Go.Proofs.YtjihopbapnfppabDoor
open Go.RowKit Go.Ord Go.Baro Go.Maps

set_option maxRecDepth 100000 in
set_option maxHeartbeats 4000000 in
theorem cell_Put : CellCodeSpec 8 Cel.cc.cp := by
  intro w hT d hd
  have hd' := hd
  unfold inW at hd'
  by_cases hx : 1 ≤ d ∧ d ≤ 6
  · obtain ⟨n, rfl⟩ : ∃ n : Nat, d = n := ⟨d.toNat, by omega⟩
    have h1 : 1 ≤ n := by omega
    have h6 : n ≤ 6 := by omega
    have HT := Lib.hid hT
    clear hT
    go_enter Tryd.func8, Tryd.ntmps8
    go_wp2_with fail
    refine (cell_valid _ _ hd).mono ?_
    rintro e w' ⟨he, rfl⟩
    rw [decide_eq_true hx] at he
    subst he
    go_wp2_with fail
    refine (cell_numbers _ n h6).mono ?_
    rintro e w1 ⟨A, c, rfl, hc, hqn, hb1⟩
    have HQ := Lib.hid hqn
    clear hqn
    go_wp2_with fail
    refine (asm_New _ A n c (numL n) HQ.out (by omega) (numL_short n) (numL_new n h6)).mono ?_
    rintro e w2 ⟨b, rfl, H⟩
    have HP := Lib.hid H
    clear H
    go_wp2_with fail
    refine (cell_mark_ok _ w1.heap.size b n (Bs.new (numL n)) n HP.out.1 (by omega) h6).mono ?_
    rintro e w3 ⟨rfl, H⟩
    have HP3 := Lib.hid (HP.out.trans H)
    clear H HP
    go_wp2_with fail
    refine (cell_choose_ok _ w1.heap.size b _ (cell_mark n (Bs.new (numL n))) n HP3.out.1 (by omega) h6 (by rw [labs_mark, labs_new]; rfl)).mono ?_
    rintro e w4 ⟨rfl, H⟩
    have HP4 := Lib.hid (HP3.out.trans H)
    clear H HP3
    go_wp2
    go_loopw [23] (fun i wr => ∃ j : Nat, j ≤ n ∧ i = .int .i64 j ∧ Hid (AsmPost w1 w1.heap.size b (putS n j) (n + 47 + 15 + 3 * j) wr)) (fun i _ => n - (intOf i).toNat)
    case atStart => exact ⟨0, Nat.zero_le _, rfl, HP4.out⟩
    case round =>
      obtain ⟨j, hj, rfl, HPj⟩ := hrel
      by_cases hjn : j < n
      · obtain ⟨g, o, l, rfl, hgB, hcell, HXL⟩ := (HQ.out.kc HPj.out.2.1).val hjn
        obtain rfl : l = nmNum j := by have := HXL.out; rw [numL_at hjn] at this; injection this with h; exact h.symm
        go_wp2_with fail
        refine (asm_StoreE _ w1.heap.size b _ (putS n j) (nmNum j) nm_copy _ (8 + (j : Int)) (by first | rfl | omega) HPj.out.1 (by omega) (by show 8 ≤ 1000; omega) (by decide)).mono ?_
        rintro e w5 ⟨rfl, H⟩
        have HP5 := Lib.hid (HPj.out.trans H)
        clear H
        go_wp2
        go_roundw
        case rel =>
          refine ⟨j + 1, by omega, by go_num, ?_⟩
          unfold putS
          rw [List.range_succ, List.foldl_append, show n + 47 + 15 + 3 * (j + 1) = n + 47 + 15 + 3 * j + 3 by omega]
          exact HP5.out
        case measure => simp [intOf]; omega
      · obtain rfl : j = n := by omega
        go_wp2_with fail
        refine (asm_StoreE _ w1.heap.size b _ (putS j j) nm_copy nm_zero _ 6 rfl HPj.out.1 (by omega) (by decide) (by decide)).mono ?_
        rintro e w5 ⟨rfl, H⟩
        have HP5 := Lib.hid (HPj.out.trans H)
        clear H
        go_wp2_with fail
        refine (cell_give_ok _ w1.heap.size b _ ((putS j j).store nm_copy nm_zero 6) HP5.out.1 (by omega)).mono ?_
        rintro e w6 ⟨rfl, H⟩
        have HP6 := Lib.hid (HP5.out.trans H)
        clear H
        obtain ⟨f1, f2, f3⟩ := putB_fin j h1 h6
        have hb6 : Below w.heap.size w w6 := hb1.trans (HP6.out.2.2.mono hb1.size)
        go_wp2_with fail
        refine (asm_Code _ (HT.out.below hb6 HT.out.lt) w1.heap.size b _ (putB j) (Cel.putC j) HP6.out.1 f1 f2 f3).mono ?_
        rintro e w7 ⟨v, rfl, hown, hb7⟩
        obtain ⟨A7, k7, rfl, hk7, hk8⟩ := own_cap hown
        go_wp2
        go_ret2
        exact ⟨fun _ => ⟨_, _, _, rfl, hk7, hk8, QT.own hown⟩, fun h => absurd hx h, hb6.trans (hb7.mono hb6.size)⟩
  · clear hT
    go_enter Tryd.func8, Tryd.ntmps8
    go_wp2_with fail
    refine (cell_valid _ _ hd).mono ?_
    rintro e w' ⟨he, rfl⟩
    rw [decide_eq_false hx] at he
    subst he
    go_wp2
    go_ret2
    exact ⟨fun h => absurd h hx, fun _ => ⟨_, _, rfl⟩, Below.refl _ _⟩
set_option maxRecDepth 100000 in
set_option maxHeartbeats 4000000 in
theorem cell_Get : CellCodeSpec 9 Cel.cc.cg := by
  intro w hT d hd
  have hd' := hd
  unfold inW at hd'
  by_cases hx : 1 ≤ d ∧ d ≤ 6
  · obtain ⟨n, rfl⟩ : ∃ n : Nat, d = n := ⟨d.toNat, by omega⟩
    have h1 : 1 ≤ n := by omega
    have h6 : n ≤ 6 := by omega
    have HT := Lib.hid hT
    clear hT
    go_enter Tryd.func9, Tryd.ntmps9
    go_wp2_with fail
    refine (cell_valid _ _ hd).mono ?_
    rintro e w' ⟨he, rfl⟩
    rw [decide_eq_true hx] at he
    subst he
    go_wp2_with fail
    refine (cell_numbers _ n h6).mono ?_
    rintro e w1 ⟨A, c, rfl, hc, hqn, hb1⟩
    have HQ := Lib.hid hqn
    clear hqn
    go_wp2_with fail
    refine (asm_New _ none 0 0 [] (QT.nil _ _ _ _) (by omega) (by simp) (by simp)).mono ?_
    rintro e w2 ⟨b, rfl, H⟩
    have HP := Lib.hid H
    clear H
    go_wp2_with fail
    refine (cell_sit_ok _ w1.heap.size b 0 (Bs.new []) HP.out.1 (by omega) rfl rfl).mono ?_
    rintro e w3 ⟨rfl, H⟩
    have HP3 := Lib.hid (HP.out.trans H)
    clear H HP
    go_wp2_with fail
    refine (cell_take_ok _ w1.heap.size b _ (cell_sit (Bs.new [])) HP3.out.1 (by omega)).mono ?_
    rintro e w4 ⟨rfl, H⟩
    have HP4 := Lib.hid (HP3.out.trans H)
    clear H HP3
    go_wp2
    go_loopw [20] (fun i wr => ∃ j : Nat, j ≤ n ∧ i = .int .i64 j ∧ Hid (AsmPost w1 w1.heap.size b (getS j) (0 + 21 + 18 + 3 * j) wr)) (fun i _ => n - (intOf i).toNat)
    case atStart => exact ⟨0, Nat.zero_le _, rfl, HP4.out⟩
    case round =>
      obtain ⟨j, hj, rfl, HPj⟩ := hrel
      by_cases hjn : j < n
      · obtain ⟨g, o, l, rfl, hgB, hcell, HXL⟩ := (HQ.out.kc HPj.out.2.1).val hjn
        obtain rfl : l = nmNum j := by have := HXL.out; rw [numL_at hjn] at this; injection this with h; exact h.symm
        go_wp2_with fail
        refine (asm_LoadE _ w1.heap.size b _ (getS j) (nmNum j) nm_copy _ (1 + (j : Int)) (by first | rfl | omega) HPj.out.1 (by omega) (by show 8 ≤ 1000; omega) (by decide)).mono ?_
        rintro e w5 ⟨rfl, H⟩
        have HP5 := Lib.hid (HPj.out.trans H)
        clear H
        go_wp2
        go_roundw
        case rel =>
          refine ⟨j + 1, by omega, by go_num, ?_⟩
          unfold getS
          rw [List.range_succ, List.foldl_append, show 0 + 21 + 18 + 3 * (j + 1) = 0 + 21 + 18 + 3 * j + 3 by omega]
          exact HP5.out
        case measure => simp [intOf]; omega
      · obtain rfl : j = n := by omega
        go_wp2_with fail
        refine (asm_SetE _ w1.heap.size b _ (getS j) nm_free _ 0 rfl HPj.out.1 (by omega) (by decide)).mono ?_
        rintro e w5 ⟨rfl, H⟩
        have HP5 := Lib.hid (HPj.out.trans H)
        clear H
        go_wp2_with fail
        refine (asm_StoreE _ w1.heap.size b _ ((getS j).set nm_free 0) nm_free nm_seat _ 2 rfl HP5.out.1 (by omega) (by decide) (by decide)).mono ?_
        rintro e w6 ⟨rfl, H⟩
        have HP6a := Lib.hid (HP5.out.trans H)
        clear H
        go_wp2_with fail
        refine (asm_Emit _ w1.heap.size b _ (((getS j).set nm_free 0).store nm_free nm_seat 2) A j c (numL j) HP6a.out.1 (by omega) (HQ.out.kc HP6a.out.2.1) (by omega) (numL_short j)).mono ?_
        rintro e w6 ⟨rfl, H⟩
        have HP6 := Lib.hid (HP6a.out.trans H)
        clear H
        obtain ⟨f1, f2, f3⟩ := getB_fin j h1 h6
        have hb6 : Below w.heap.size w w6 := hb1.trans (HP6.out.2.2.mono hb1.size)
        go_wp2_with fail
        refine (asm_Code _ (HT.out.below hb6 HT.out.lt) w1.heap.size b _ (getB j) (Cel.getC j) HP6.out.1 f1 f2 f3).mono ?_
        rintro e w7 ⟨v, rfl, hown, hb7⟩
        obtain ⟨A7, k7, rfl, hk7, hk8⟩ := own_cap hown
        go_wp2
        go_ret2
        exact ⟨fun _ => ⟨_, _, _, rfl, hk7, hk8, QT.own hown⟩, fun h => absurd hx h, hb6.trans (hb7.mono hb6.size)⟩
  · clear hT
    go_enter Tryd.func9, Tryd.ntmps9
    go_wp2_with fail
    refine (cell_valid _ _ hd).mono ?_
    rintro e w' ⟨he, rfl⟩
    rw [decide_eq_false hx] at he
    subst he
    go_wp2
    go_ret2
    exact ⟨fun h => absurd h hx, fun _ => ⟨_, _, rfl⟩, Below.refl _ _⟩
end Go.Proofs.YtjihopbapnfppabDoor

set_option linter.unusedSimpArgs false
set_option linter.unusedVariables false
namespace Go.Proofs.YtjihopbapnfppabDoor
open Go.RowKit Go.Ord Go.Baro
instance (x : Int) : Decidable (inW x) := by unfold inW; infer_instance
instance (o : Ins) : Decidable (inI o) := by unfold inI; infer_instance
theorem cc_ok : Cel.cc.Ok := by
  refine ⟨fun d h1 h6 => ?_, fun d h1 h6 => ?_, fun d h1 h6 => ?_⟩
  · show 0 < (Cel.wsC d).length ∧ (Cel.wsC d).length ≤ 64 ∧ ∀ x ∈ Cel.wsC d, inW x
    refine ⟨by simp [Cel.wsC]; omega, by simp [Cel.wsC]; omega, fun x hx => ?_⟩
    rw [List.eq_of_mem_replicate hx]; unfold inW; omega
  · show 0 < (Cel.putC d).length ∧ okC (Cel.putC d) ∧ ∀ o ∈ Cel.putC d, inI o
    rcases (by omega : d = 1 ∨ d = 2 ∨ d = 3 ∨ d = 4 ∨ d = 5 ∨ d = 6) with rfl | rfl | rfl | rfl | rfl | rfl <;> decide +kernel
  · show 0 < (Cel.getC d).length ∧ okC (Cel.getC d) ∧ ∀ o ∈ Cel.getC d, inI o
    rcases (by omega : d = 1 ∨ d = 2 ∨ d = 3 ∨ d = 4 ∨ d = 5 ∨ d = 6) with rfl | rfl | rfl | rfl | rfl | rfl <;> decide +kernel
end Go.Proofs.YtjihopbapnfppabDoor
