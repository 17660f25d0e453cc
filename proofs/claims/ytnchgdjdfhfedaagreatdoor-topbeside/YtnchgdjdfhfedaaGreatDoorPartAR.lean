/- Of this claim's own texts these, one behind the other: Cell1, Cell2, Cell3, Cell4, CellOk. No statement of the seat is proved here; no condition but those that stand at the theorems. -/
import Derived.Test.YtnchgdjdfhfedaaGreatDoorPartAQ
import Derived.Test.YtnchgdjdfhfedaaGreatDoorPartAN
set_option linter.unusedSimpArgs false
set_option linter.unusedVariables false
namespace Go.Proofs.YtnchgdjdfhfedaaGreatDoor
open Go.RowKit Go.Ord Go.Baro Go.Maps

theorem cell_size (w : World) (d : Nat) (hd : d ≤ 6) : Calls Tryz.prog 15 #[.int .i64 d] w fun e w' => e = .returned (.int .i64 (1 + (d : Int))) ∧ w = w' := by
  go_enter Tryz.func15, Tryz.ntmps15
  go_wp2
  go_ret
  exact ⟨rfl, rfl⟩
def nm_zero : Nm := [122, 101, 114, 111]
def nm_mark : Nm := [109, 97, 114, 107]
def nm_copy : Nm := [99, 111, 112, 121]
def nm_address : Nm := [97, 100, 100, 114, 101, 115, 115]
def nm_size : Nm := [115, 105, 122, 101]
def nm_next : Nm := [110, 101, 120, 116]
def nm_first : Nm := [102, 105, 114, 115, 116]
def nm_seeking : Nm := [115, 101, 101, 107, 105, 110, 103]
def nm_given : Nm := [103, 105, 118, 101, 110]
def nm_free : Nm := [102, 114, 101, 101]
def nm_here : Nm := [104, 101, 114, 101]
def nm_taken : Nm := [116, 97, 107, 101, 110]
def nm_seat : Nm := [115, 101, 97, 116]
def nm_seated : Nm := [115, 101, 97, 116, 101, 100]
def nm_one : Nm := [111, 110, 101]
def cell_mark (d : Nat) (s : Bs) : Bs := ((List.range 4).foldl (fun (s : Bs) (i : Nat) => ((s.load nm_address nm_zero (2 + (i : Int))).store nm_mark nm_address (0))) (((((List.range 5).foldl (fun (s : Bs) (i : Nat) => (s.store nm_zero nm_zero (7 + (i : Int) * (1 + (d : Int))))) s).set nm_mark (1)).load nm_copy nm_zero (6)).store nm_mark nm_copy (7)))
set_option maxRecDepth 100000 in
set_option maxHeartbeats 4000000 in
theorem cell_mark_ok (w : World) (B b n : Nat) (s : Bs) (d : Nat) (h : BdAt w B b s n) (hn : n < 10000) (h6 : d ≤ 6) :
    Calls Tryz.prog 18 #[.pointer (some ⟨b, 0, none⟩), .int .i64 d] w fun e w' => e = .returned (.tuple #[]) ∧ AsmPost w B b (cell_mark d s) (n + 47) w' := by
  have HP0 := Lib.hid (show AsmPost w B b s n w from ⟨h, Kc.refl _ _, Below.refl _ _⟩)
  clear h
  go_enter Tryz.func18, Tryz.ntmps18
  go_wp2
  go_loopw [6] (fun i wr => ∃ j : Nat, j ≤ 5 ∧ i = .int .i64 j ∧ Hid (AsmPost w B b ((List.range j).foldl (fun (s : Bs) (i : Nat) => (s.store nm_zero nm_zero (7 + (i : Int) * (1 + (d : Int))))) s) (n + 3 * j) wr)) (fun i _ => 5 - (intOf i).toNat)
  case atStart => exact ⟨0, Nat.zero_le _, rfl, HP0.out⟩
  case round =>
    obtain ⟨i, hi, rfl, HP1⟩ := hrel
    by_cases hi1 : i < 5
    · have hw1 := HP1
      obtain ⟨M2, hM2, hM20, hM21⟩ : ∃ M : Int, (i : Int) * (1 + (d : Int)) = M ∧ 0 ≤ M ∧ M ≤ 28 := ⟨_, rfl, by exact Int.mul_nonneg (by omega) (by omega), by have := Int.mul_le_mul (show (i : Int) ≤ 4 by omega) (show 1 + (d : Int) ≤ 7 by omega) (by omega) (by omega); omega⟩
      go_wp2_with fail
      refine (cell_size _ d h6).mono ?_
      rintro e ws ⟨rfl, rfl⟩
      go_wp2_with fail
      refine (asm_StoreE _ B b (n + 3 * i) ((List.range i).foldl (fun (s : Bs) (i : Nat) => (s.store nm_zero nm_zero (7 + (i : Int) * (1 + (d : Int))))) s) nm_zero nm_zero _ (7 + (i : Int) * (1 + (d : Int))) (by first | rfl | omega) HP1.out.1 (by omega) (by decide) (by decide)).mono ?_
      rintro e w4 ⟨rfl, H⟩
      have HP4 := Lib.hid (HP1.out.trans H)
      clear H
      go_wp2
      go_roundw
      case rel =>
        refine ⟨i + 1, by omega, by go_num, ?_⟩
        rw [show List.range (i + 1) = List.range i ++ [i] from List.range_succ, List.foldl_append, show n + 3 * (i + 1) = ((n + 3 * i) + 3) by omega]
        exact HP4.out
      case measure => simp [intOf]; omega
    · obtain rfl : i = 5 := by omega
      go_wp2_with fail
      refine (asm_SetE _ B b (n + 3 * 5) ((List.range 5).foldl (fun (s : Bs) (i : Nat) => (s.store nm_zero nm_zero (7 + (i : Int) * (1 + (d : Int))))) s) nm_mark _ (1) (by first | rfl | omega) HP1.out.1 (by omega) (by decide)).mono ?_
      rintro e w5 ⟨rfl, H⟩
      have HP5 := Lib.hid (HP1.out.trans H)
      clear H
      go_wp2_with fail
      refine (asm_LoadE _ B b ((n + 3 * 5) + 2) (((List.range 5).foldl (fun (s : Bs) (i : Nat) => (s.store nm_zero nm_zero (7 + (i : Int) * (1 + (d : Int))))) s).set nm_mark (1)) nm_copy nm_zero _ (6) (by first | rfl | omega) HP5.out.1 (by omega) (by decide) (by decide)).mono ?_
      rintro e w6 ⟨rfl, H⟩
      have HP6 := Lib.hid (HP5.out.trans H)
      clear H
      go_wp2_with fail
      refine (asm_StoreE _ B b (((n + 3 * 5) + 2) + 3) ((((List.range 5).foldl (fun (s : Bs) (i : Nat) => (s.store nm_zero nm_zero (7 + (i : Int) * (1 + (d : Int))))) s).set nm_mark (1)).load nm_copy nm_zero (6)) nm_mark nm_copy _ (7) (by first | rfl | omega) HP6.out.1 (by omega) (by decide) (by decide)).mono ?_
      rintro e w7 ⟨rfl, H⟩
      have HP7 := Lib.hid (HP6.out.trans H)
      clear H
      go_wp2
      go_loopw [23] (fun i wr => ∃ j : Nat, j ≤ 4 ∧ i = .int .i64 j ∧ Hid (AsmPost w B b ((List.range j).foldl (fun (s : Bs) (i : Nat) => ((s.load nm_address nm_zero (2 + (i : Int))).store nm_mark nm_address (0))) (((((List.range 5).foldl (fun (s : Bs) (i : Nat) => (s.store nm_zero nm_zero (7 + (i : Int) * (1 + (d : Int))))) s).set nm_mark (1)).load nm_copy nm_zero (6)).store nm_mark nm_copy (7))) (((((n + 3 * 5) + 2) + 3) + 3) + 6 * j) wr)) (fun i _ => 4 - (intOf i).toNat)
      case atStart => exact ⟨0, Nat.zero_le _, rfl, HP7.out⟩
      case round =>
        obtain ⟨i, hi, rfl, HP8⟩ := hrel
        by_cases hi1 : i < 4
        · have hw8 := HP8
          go_wp2_with fail
          refine (asm_LoadE _ B b (((((n + 3 * 5) + 2) + 3) + 3) + 6 * i) ((List.range i).foldl (fun (s : Bs) (i : Nat) => ((s.load nm_address nm_zero (2 + (i : Int))).store nm_mark nm_address (0))) (((((List.range 5).foldl (fun (s : Bs) (i : Nat) => (s.store nm_zero nm_zero (7 + (i : Int) * (1 + (d : Int))))) s).set nm_mark (1)).load nm_copy nm_zero (6)).store nm_mark nm_copy (7))) nm_address nm_zero _ (2 + (i : Int)) (by first | rfl | omega) HP8.out.1 (by omega) (by decide) (by decide)).mono ?_
          rintro e w9 ⟨rfl, H⟩
          have HP9 := Lib.hid (HP8.out.trans H)
          clear H
          go_wp2_with fail
          refine (asm_StoreE _ B b ((((((n + 3 * 5) + 2) + 3) + 3) + 6 * i) + 3) (((List.range i).foldl (fun (s : Bs) (i : Nat) => ((s.load nm_address nm_zero (2 + (i : Int))).store nm_mark nm_address (0))) (((((List.range 5).foldl (fun (s : Bs) (i : Nat) => (s.store nm_zero nm_zero (7 + (i : Int) * (1 + (d : Int))))) s).set nm_mark (1)).load nm_copy nm_zero (6)).store nm_mark nm_copy (7))).load nm_address nm_zero (2 + (i : Int))) nm_mark nm_address _ (0) (by first | rfl | omega) HP9.out.1 (by omega) (by decide) (by decide)).mono ?_
          rintro e w10 ⟨rfl, H⟩
          have HP10 := Lib.hid (HP9.out.trans H)
          clear H
          go_wp2
          go_roundw
          case rel =>
            refine ⟨i + 1, by omega, by go_num, ?_⟩
            rw [show List.range (i + 1) = List.range i ++ [i] from List.range_succ, List.foldl_append, show ((((n + 3 * 5) + 2) + 3) + 3) + 6 * (i + 1) = (((((((n + 3 * 5) + 2) + 3) + 3) + 6 * i) + 3) + 3) by omega]
            exact HP10.out
          case measure => simp [intOf]; omega
        · obtain rfl : i = 4 := by omega
          go_wp2
          refine bodyPost_end (v := .tuple #[]) (results_noneA rfl _ _) rfl ?_
          have := HP8.out
          rw [show (((((n + 3 * 5) + 2) + 3) + 3) + 6 * 4) = n + 47 by omega] at this
          exact ⟨rfl, this⟩
def cell_choose (d : Nat) (s : Bs) : Bs := ((((((s.set nm_size ((1 + (d : Int)))).set nm_copy (-(1 + (d : Int)))).lab nm_next).op3 3 nm_copy nm_copy nm_size).load nm_mark nm_copy (7)).when nm_mark nm_next)
set_option maxRecDepth 100000 in
set_option maxHeartbeats 4000000 in
theorem cell_choose_ok (w : World) (B b n : Nat) (s : Bs) (d : Nat) (h : BdAt w B b s n) (hn : n < 10000) (h6 : d ≤ 6) (ha : nmAsk s.labs nm_next = none) :
    Calls Tryz.prog 19 #[.pointer (some ⟨b, 0, none⟩), .int .i64 d] w fun e w' => e = .returned (.tuple #[]) ∧ AsmPost w B b (cell_choose d s) (n + 15) w' := by
  have HP0 := Lib.hid (show AsmPost w B b s n w from ⟨h, Kc.refl _ _, Below.refl _ _⟩)
  clear h
  go_enter Tryz.func19, Tryz.ntmps19
  go_wp2_with fail
  refine (cell_size _ d h6).mono ?_
  rintro e ws ⟨rfl, rfl⟩
  go_wp2_with fail
  refine (asm_SetE _ B b n s nm_size _ ((1 + (d : Int))) (by first | rfl | omega) HP0.out.1 (by omega) (by decide)).mono ?_
  rintro e w2 ⟨rfl, H⟩
  have HP2 := Lib.hid (HP0.out.trans H)
  clear H
  go_wp2_with fail
  refine (cell_size _ d h6).mono ?_
  rintro e ws ⟨rfl, rfl⟩
  go_wp2_with fail
  refine (asm_SetE _ B b (n + 2) (s.set nm_size ((1 + (d : Int)))) nm_copy _ (-(1 + (d : Int))) (by first | rfl | omega) HP2.out.1 (by omega) (by decide)).mono ?_
  rintro e w4 ⟨rfl, H⟩
  have HP4 := Lib.hid (HP2.out.trans H)
  clear H
  go_wp2_with fail
  refine (asm_Label _ B b ((n + 2) + 2) ((s.set nm_size ((1 + (d : Int)))).set nm_copy (-(1 + (d : Int)))) nm_next HP4.out.1 (by omega) (by decide) (by try simp only [labs_set, labs_copy, labs_op3, labs_jump, labs_when, labs_load, labs_store, labs_cas, labs_new]; (first | assumption | (refine nmAsk_lab ?_ (by decide); try simp only [labs_set, labs_copy, labs_op3, labs_jump, labs_when, labs_load, labs_store, labs_cas, labs_new]; (first | assumption | (refine nmAsk_lab ?_ (by decide); try simp only [labs_set, labs_copy, labs_op3, labs_jump, labs_when, labs_load, labs_store, labs_cas, labs_new]; assumption)))))).mono ?_
  rintro e w5 ⟨rfl, H⟩
  have HP5 := Lib.hid (HP4.out.trans H)
  clear H
  go_wp2_with fail
  refine (asm_Add _ B b (((n + 2) + 2) + 1) (((s.set nm_size ((1 + (d : Int)))).set nm_copy (-(1 + (d : Int)))).lab nm_next) nm_copy nm_copy nm_size HP5.out.1 (by omega) (by decide) (by decide) (by decide)).mono ?_
  rintro e w6 ⟨rfl, H⟩
  have HP6 := Lib.hid (HP5.out.trans H)
  clear H
  go_wp2_with fail
  refine (asm_LoadE _ B b ((((n + 2) + 2) + 1) + 4) ((((s.set nm_size ((1 + (d : Int)))).set nm_copy (-(1 + (d : Int)))).lab nm_next).op3 3 nm_copy nm_copy nm_size) nm_mark nm_copy _ (7) (by first | rfl | omega) HP6.out.1 (by omega) (by decide) (by decide)).mono ?_
  rintro e w7 ⟨rfl, H⟩
  have HP7 := Lib.hid (HP6.out.trans H)
  clear H
  go_wp2_with fail
  refine (asm_When _ B b (((((n + 2) + 2) + 1) + 4) + 3) (((((s.set nm_size ((1 + (d : Int)))).set nm_copy (-(1 + (d : Int)))).lab nm_next).op3 3 nm_copy nm_copy nm_size).load nm_mark nm_copy (7)) nm_mark nm_next HP7.out.1 (by omega) (by decide) (by decide)).mono ?_
  rintro e w8 ⟨rfl, H⟩
  have HP8 := Lib.hid (HP7.out.trans H)
  clear H
  go_wp2
  refine bodyPost_end (v := .tuple #[]) (results_noneA rfl _ _) rfl ?_
  have := HP8.out
  rw [show ((((((n + 2) + 2) + 1) + 4) + 3) + 3) = n + 15 by omega] at this
  exact ⟨rfl, this⟩
def cell_give (s : Bs) : Bs := ((List.range 4).foldl (fun (s : Bs) (i : Nat) => ((s.copy nm_given nm_address).cas nm_given nm_zero (2 + (i : Int)) nm_seeking)) (((s.set nm_first (7)).op3 3 nm_address nm_copy nm_first).set nm_seeking (1)))
set_option maxRecDepth 100000 in
set_option maxHeartbeats 4000000 in
theorem cell_give_ok (w : World) (B b n : Nat) (s : Bs) (h : BdAt w B b s n) (hn : n < 10000) :
    Calls Tryz.prog 21 #[.pointer (some ⟨b, 0, none⟩)] w fun e w' => e = .returned (.tuple #[]) ∧ AsmPost w B b (cell_give s) (n + 36) w' := by
  have HP0 := Lib.hid (show AsmPost w B b s n w from ⟨h, Kc.refl _ _, Below.refl _ _⟩)
  clear h
  go_enter Tryz.func21, Tryz.ntmps21
  go_wp2_with fail
  refine (asm_SetE _ B b n s nm_first _ (7) (by first | rfl | omega) HP0.out.1 (by omega) (by decide)).mono ?_
  rintro e w1 ⟨rfl, H⟩
  have HP1 := Lib.hid (HP0.out.trans H)
  clear H
  go_wp2_with fail
  refine (asm_Add _ B b (n + 2) (s.set nm_first (7)) nm_address nm_copy nm_first HP1.out.1 (by omega) (by decide) (by decide) (by decide)).mono ?_
  rintro e w2 ⟨rfl, H⟩
  have HP2 := Lib.hid (HP1.out.trans H)
  clear H
  go_wp2_with fail
  refine (asm_SetE _ B b ((n + 2) + 4) ((s.set nm_first (7)).op3 3 nm_address nm_copy nm_first) nm_seeking _ (1) (by first | rfl | omega) HP2.out.1 (by omega) (by decide)).mono ?_
  rintro e w3 ⟨rfl, H⟩
  have HP3 := Lib.hid (HP2.out.trans H)
  clear H
  go_wp2
  go_loopw [9] (fun i wr => ∃ j : Nat, j ≤ 4 ∧ i = .int .i64 j ∧ Hid (AsmPost w B b ((List.range j).foldl (fun (s : Bs) (i : Nat) => ((s.copy nm_given nm_address).cas nm_given nm_zero (2 + (i : Int)) nm_seeking)) (((s.set nm_first (7)).op3 3 nm_address nm_copy nm_first).set nm_seeking (1))) ((((n + 2) + 4) + 2) + 7 * j) wr)) (fun i _ => 4 - (intOf i).toNat)
  case atStart => exact ⟨0, Nat.zero_le _, rfl, HP3.out⟩
  case round =>
    obtain ⟨i, hi, rfl, HP4⟩ := hrel
    by_cases hi1 : i < 4
    · have hw4 := HP4
      go_wp2_with fail
      refine (asm_Copy _ B b ((((n + 2) + 4) + 2) + 7 * i) ((List.range i).foldl (fun (s : Bs) (i : Nat) => ((s.copy nm_given nm_address).cas nm_given nm_zero (2 + (i : Int)) nm_seeking)) (((s.set nm_first (7)).op3 3 nm_address nm_copy nm_first).set nm_seeking (1))) nm_given nm_address HP4.out.1 (by omega) (by decide) (by decide)).mono ?_
      rintro e w5 ⟨rfl, H⟩
      have HP5 := Lib.hid (HP4.out.trans H)
      clear H
      go_wp2_with fail
      refine (asm_CasE _ B b (((((n + 2) + 4) + 2) + 7 * i) + 3) (((List.range i).foldl (fun (s : Bs) (i : Nat) => ((s.copy nm_given nm_address).cas nm_given nm_zero (2 + (i : Int)) nm_seeking)) (((s.set nm_first (7)).op3 3 nm_address nm_copy nm_first).set nm_seeking (1))).copy nm_given nm_address) nm_given nm_zero _ (2 + (i : Int)) nm_seeking (by first | rfl | omega) HP5.out.1 (by omega) (by decide) (by decide) (by decide)).mono ?_
      rintro e w6 ⟨rfl, H⟩
      have HP6 := Lib.hid (HP5.out.trans H)
      clear H
      go_wp2
      go_roundw
      case rel =>
        refine ⟨i + 1, by omega, by go_num, ?_⟩
        rw [show List.range (i + 1) = List.range i ++ [i] from List.range_succ, List.foldl_append, show (((n + 2) + 4) + 2) + 7 * (i + 1) = ((((((n + 2) + 4) + 2) + 7 * i) + 3) + 4) by omega]
        exact HP6.out
      case measure => simp [intOf]; omega
    · obtain rfl : i = 4 := by omega
      go_wp2
      refine bodyPost_end (v := .tuple #[]) (results_noneA rfl _ _) rfl ?_
      have := HP4.out
      rw [show ((((n + 2) + 4) + 2) + 7 * 4) = n + 36 by omega] at this
      exact ⟨rfl, this⟩
def cell_sit (s : Bs) : Bs := (((((((((s.set nm_free (0)).lab nm_here).set nm_taken (1)).cas nm_taken nm_seat (2) nm_free).when nm_taken nm_seated).set nm_one (1)).op3 3 nm_seat nm_seat nm_one).jump nm_here).lab nm_seated)
set_option maxRecDepth 100000 in
set_option maxHeartbeats 4000000 in
theorem cell_sit_ok (w : World) (B b n : Nat) (s : Bs) (h : BdAt w B b s n) (hn : n < 10000) (ha : nmAsk s.labs nm_here = none) (ha2 : nmAsk s.labs nm_seated = none) :
    Calls Tryz.prog 23 #[.pointer (some ⟨b, 0, none⟩)] w fun e w' => e = .returned (.tuple #[]) ∧ AsmPost w B b (cell_sit s) (n + 21) w' := by
  have HP0 := Lib.hid (show AsmPost w B b s n w from ⟨h, Kc.refl _ _, Below.refl _ _⟩)
  clear h
  go_enter Tryz.func23, Tryz.ntmps23
  go_wp2_with fail
  refine (asm_SetE _ B b n s nm_free _ (0) (by first | rfl | omega) HP0.out.1 (by omega) (by decide)).mono ?_
  rintro e w1 ⟨rfl, H⟩
  have HP1 := Lib.hid (HP0.out.trans H)
  clear H
  go_wp2_with fail
  refine (asm_Label _ B b (n + 2) (s.set nm_free (0)) nm_here HP1.out.1 (by omega) (by decide) (by try simp only [labs_set, labs_copy, labs_op3, labs_jump, labs_when, labs_load, labs_store, labs_cas, labs_new]; (first | assumption | (refine nmAsk_lab ?_ (by decide); try simp only [labs_set, labs_copy, labs_op3, labs_jump, labs_when, labs_load, labs_store, labs_cas, labs_new]; (first | assumption | (refine nmAsk_lab ?_ (by decide); try simp only [labs_set, labs_copy, labs_op3, labs_jump, labs_when, labs_load, labs_store, labs_cas, labs_new]; assumption)))))).mono ?_
  rintro e w2 ⟨rfl, H⟩
  have HP2 := Lib.hid (HP1.out.trans H)
  clear H
  go_wp2_with fail
  refine (asm_SetE _ B b ((n + 2) + 1) ((s.set nm_free (0)).lab nm_here) nm_taken _ (1) (by first | rfl | omega) HP2.out.1 (by omega) (by decide)).mono ?_
  rintro e w3 ⟨rfl, H⟩
  have HP3 := Lib.hid (HP2.out.trans H)
  clear H
  go_wp2_with fail
  refine (asm_CasE _ B b (((n + 2) + 1) + 2) (((s.set nm_free (0)).lab nm_here).set nm_taken (1)) nm_taken nm_seat _ (2) nm_free (by first | rfl | omega) HP3.out.1 (by omega) (by decide) (by decide) (by decide)).mono ?_
  rintro e w4 ⟨rfl, H⟩
  have HP4 := Lib.hid (HP3.out.trans H)
  clear H
  go_wp2_with fail
  refine (asm_When _ B b ((((n + 2) + 1) + 2) + 4) ((((s.set nm_free (0)).lab nm_here).set nm_taken (1)).cas nm_taken nm_seat (2) nm_free) nm_taken nm_seated HP4.out.1 (by omega) (by decide) (by decide)).mono ?_
  rintro e w5 ⟨rfl, H⟩
  have HP5 := Lib.hid (HP4.out.trans H)
  clear H
  go_wp2_with fail
  refine (asm_SetE _ B b (((((n + 2) + 1) + 2) + 4) + 3) (((((s.set nm_free (0)).lab nm_here).set nm_taken (1)).cas nm_taken nm_seat (2) nm_free).when nm_taken nm_seated) nm_one _ (1) (by first | rfl | omega) HP5.out.1 (by omega) (by decide)).mono ?_
  rintro e w6 ⟨rfl, H⟩
  have HP6 := Lib.hid (HP5.out.trans H)
  clear H
  go_wp2_with fail
  refine (asm_Add _ B b ((((((n + 2) + 1) + 2) + 4) + 3) + 2) ((((((s.set nm_free (0)).lab nm_here).set nm_taken (1)).cas nm_taken nm_seat (2) nm_free).when nm_taken nm_seated).set nm_one (1)) nm_seat nm_seat nm_one HP6.out.1 (by omega) (by decide) (by decide) (by decide)).mono ?_
  rintro e w7 ⟨rfl, H⟩
  have HP7 := Lib.hid (HP6.out.trans H)
  clear H
  go_wp2_with fail
  refine (asm_Jump _ B b (((((((n + 2) + 1) + 2) + 4) + 3) + 2) + 4) (((((((s.set nm_free (0)).lab nm_here).set nm_taken (1)).cas nm_taken nm_seat (2) nm_free).when nm_taken nm_seated).set nm_one (1)).op3 3 nm_seat nm_seat nm_one) nm_here HP7.out.1 (by omega) (by decide)).mono ?_
  rintro e w8 ⟨rfl, H⟩
  have HP8 := Lib.hid (HP7.out.trans H)
  clear H
  go_wp2_with fail
  refine (asm_Label _ B b ((((((((n + 2) + 1) + 2) + 4) + 3) + 2) + 4) + 2) ((((((((s.set nm_free (0)).lab nm_here).set nm_taken (1)).cas nm_taken nm_seat (2) nm_free).when nm_taken nm_seated).set nm_one (1)).op3 3 nm_seat nm_seat nm_one).jump nm_here) nm_seated HP8.out.1 (by omega) (by decide) (by try simp only [labs_set, labs_copy, labs_op3, labs_jump, labs_when, labs_load, labs_store, labs_cas, labs_new]; (first | assumption | (refine nmAsk_lab ?_ (by decide); try simp only [labs_set, labs_copy, labs_op3, labs_jump, labs_when, labs_load, labs_store, labs_cas, labs_new]; (first | assumption | (refine nmAsk_lab ?_ (by decide); try simp only [labs_set, labs_copy, labs_op3, labs_jump, labs_when, labs_load, labs_store, labs_cas, labs_new]; assumption)))))).mono ?_
  rintro e w9 ⟨rfl, H⟩
  have HP9 := Lib.hid (HP8.out.trans H)
  clear H
  go_wp2
  refine bodyPost_end (v := .tuple #[]) (results_noneA rfl _ _) rfl ?_
  have := HP9.out
  rw [show (((((((((n + 2) + 1) + 2) + 4) + 3) + 2) + 4) + 2) + 1) = n + 21 by omega] at this
  exact ⟨rfl, this⟩
def cell_take (s : Bs) : Bs := ((((((s.load nm_copy nm_zero (6)).set nm_first (7)).op3 3 nm_copy nm_copy nm_first).set nm_seeking (1)).cas nm_copy nm_seat (2) nm_seeking).load nm_copy nm_seat (2))
set_option maxRecDepth 100000 in
set_option maxHeartbeats 4000000 in
theorem cell_take_ok (w : World) (B b n : Nat) (s : Bs) (h : BdAt w B b s n) (hn : n < 10000) :
    Calls Tryz.prog 24 #[.pointer (some ⟨b, 0, none⟩)] w fun e w' => e = .returned (.tuple #[]) ∧ AsmPost w B b (cell_take s) (n + 18) w' := by
  have HP0 := Lib.hid (show AsmPost w B b s n w from ⟨h, Kc.refl _ _, Below.refl _ _⟩)
  clear h
  go_enter Tryz.func24, Tryz.ntmps24
  go_wp2_with fail
  refine (asm_LoadE _ B b n s nm_copy nm_zero _ (6) (by first | rfl | omega) HP0.out.1 (by omega) (by decide) (by decide)).mono ?_
  rintro e w1 ⟨rfl, H⟩
  have HP1 := Lib.hid (HP0.out.trans H)
  clear H
  go_wp2_with fail
  refine (asm_SetE _ B b (n + 3) (s.load nm_copy nm_zero (6)) nm_first _ (7) (by first | rfl | omega) HP1.out.1 (by omega) (by decide)).mono ?_
  rintro e w2 ⟨rfl, H⟩
  have HP2 := Lib.hid (HP1.out.trans H)
  clear H
  go_wp2_with fail
  refine (asm_Add _ B b ((n + 3) + 2) ((s.load nm_copy nm_zero (6)).set nm_first (7)) nm_copy nm_copy nm_first HP2.out.1 (by omega) (by decide) (by decide) (by decide)).mono ?_
  rintro e w3 ⟨rfl, H⟩
  have HP3 := Lib.hid (HP2.out.trans H)
  clear H
  go_wp2_with fail
  refine (asm_SetE _ B b (((n + 3) + 2) + 4) (((s.load nm_copy nm_zero (6)).set nm_first (7)).op3 3 nm_copy nm_copy nm_first) nm_seeking _ (1) (by first | rfl | omega) HP3.out.1 (by omega) (by decide)).mono ?_
  rintro e w4 ⟨rfl, H⟩
  have HP4 := Lib.hid (HP3.out.trans H)
  clear H
  go_wp2_with fail
  refine (asm_CasE _ B b ((((n + 3) + 2) + 4) + 2) ((((s.load nm_copy nm_zero (6)).set nm_first (7)).op3 3 nm_copy nm_copy nm_first).set nm_seeking (1)) nm_copy nm_seat _ (2) nm_seeking (by first | rfl | omega) HP4.out.1 (by omega) (by decide) (by decide) (by decide)).mono ?_
  rintro e w5 ⟨rfl, H⟩
  have HP5 := Lib.hid (HP4.out.trans H)
  clear H
  go_wp2_with fail
  refine (asm_LoadE _ B b (((((n + 3) + 2) + 4) + 2) + 4) (((((s.load nm_copy nm_zero (6)).set nm_first (7)).op3 3 nm_copy nm_copy nm_first).set nm_seeking (1)).cas nm_copy nm_seat (2) nm_seeking) nm_copy nm_seat _ (2) (by first | rfl | omega) HP5.out.1 (by omega) (by decide) (by decide)).mono ?_
  rintro e w6 ⟨rfl, H⟩
  have HP6 := Lib.hid (HP5.out.trans H)
  clear H
  go_wp2
  refine bodyPost_end (v := .tuple #[]) (results_noneA rfl _ _) rfl ?_
  have := HP6.out
  rw [show ((((((n + 3) + 2) + 4) + 2) + 4) + 3) = n + 18 by omega] at this
  exact ⟨rfl, this⟩
end Go.Proofs.YtnchgdjdfhfedaaGreatDoor

set_option linter.unusedSimpArgs false
set_option linter.unusedVariables false
namespace Go.Proofs.YtnchgdjdfhfedaaGreatDoor
open Go.RowKit Go.Ord Go.Baro Go.Maps

theorem eltStr : Elt Tryz.prog 51 9 (.string ⟨#[]⟩) 1 16 := Elt.mk' Tryz.underlying51 (by kernel_rfl) rfl (by decide)
def digit (i : Nat) : UInt8 := UInt8.ofNat (48 + i)
theorem std_small (i : Nat) (hi : i < 6) (w : World) : Calls Tryz.prog 79 #[.int .i64 i] w fun e w' => e = .returned (.string ⟨#[digit i]⟩) ∧ w = w' := by
  rcases (by omega : i = 0 ∨ i = 1 ∨ i = 2 ∨ i = 3 ∨ i = 4 ∨ i = 5) with rfl | rfl | rfl | rfl | rfl | rfl
  all_goals
    go_enter Tryz.func79, Tryz.ntmps79
    go_wp2
    go_ret
    exact ⟨by congr 1, rfl⟩
theorem std_FormatInt (i : Nat) (hi : i < 6) (w : World) : Calls Tryz.prog 71 #[.int .i64 i, .int .i64 10] w fun e w' => e = .returned (.string ⟨#[digit i]⟩) ∧ w = w' := by
  go_enter Tryz.func71, Tryz.ntmps71
  go_wp2_with fail
  refine (std_small i hi _).mono ?_
  rintro e w' ⟨rfl, rfl⟩
  go_wp2
  go_ret
  exact ⟨rfl, rfl⟩
theorem std_ItoaI (i : Nat) (hi : i < 6) (w : World) : Calls Tryz.prog 55 #[.int .i64 i] w fun e w' => e = .returned (.string ⟨#[digit i]⟩) ∧ w = w' := by
  go_enter Tryz.func55, Tryz.ntmps55
  go_wp2_with fail
  refine (std_FormatInt i hi _).mono ?_
  rintro e w' ⟨rfl, rfl⟩
  go_wp2
  go_ret
  exact ⟨rfl, rfl⟩
theorem std_Itoa (i : Nat) (hi : i < 6) (w : World) : Calls Tryz.prog 37 #[.int .i64 i] w fun e w' => e = .returned (.string ⟨#[digit i]⟩) ∧ w = w' := by
  go_enter Tryz.func37, Tryz.ntmps37
  go_wp2_with fail
  refine (std_ItoaI i hi _).mono ?_
  rintro e w' ⟨rfl, rfl⟩
  go_wp2
  go_ret
  exact ⟨rfl, rfl⟩
/-- The names of the registers with the numbers of the record. -/
def nmNum (i : Nat) : Nm := [110, 117, 109, 98, 101, 114, 32, digit i]
def numL (d : Nat) : List Nm := (List.range d).map nmNum
theorem numL_len (d : Nat) : (numL d).length = d := by simp [numL]
theorem numL_succ (d : Nat) : numL (d + 1) = numL d ++ [nmNum d] := by simp [numL, List.range_succ]
theorem num_app (x : UInt8) : (⟨#[110, 117, 109, 98, 101, 114, 32]⟩ : ByteArray) ++ ⟨#[x]⟩ = ⟨#[110, 117, 109, 98, 101, 114, 32, x]⟩ := by rfl
set_option maxRecDepth 100000 in
set_option maxHeartbeats 1000000 in
theorem cell_numbers (w : World) (d : Nat) (h6 : d ≤ 6) : Calls Tryz.prog 16 #[.int .i64 d] w fun e w' => ∃ A c, e = .returned (.slice A d c) ∧ d ≤ c ∧ QN w' A d (numL d) ∧ Below w.heap.size w w' := by
  go_enter Tryz.func16, Tryz.ntmps16
  go_wp2
  go_loopw [3, 6] (fun v i wr => ∃ j : Nat, j ≤ d ∧ i = .int .i64 j ∧ Hid (wr.ownsRow w.heap.size 9 1 v j ((numL j).map nmV)) ∧ Below w.heap.size w wr) (fun _ i _ => d - (intOf i).toNat)
  case atStart => exact ⟨0, Nat.zero_le _, rfl, World.ownsRow_nil _ _ _ _, Below.refl _ _⟩
  case round =>
    obtain ⟨j, hj, rfl, HO, hb⟩ := hrel
    have hsz := hb.size
    by_cases h1 : j < d
    · have hna := num_app (digit j)
      go_wp2_with fail
      refine (std_Itoa j (by omega) _).mono ?_
      rintro e w' ⟨rfl, rfl⟩
      go_wp2_with (at_builtin; go_must (refine app_lit eltStr wr rfl _ _ rfl w.heap.size _ j _ rfl (by exact HO.out) 1 [.string ⟨#[110, 117, 109, 98, 101, 114, 32, digit j]⟩] wr.heap.size rfl rfl rfl (by simp [Value.oneCell']) (by omega) (by omega) hsz ?_); intro v3 w3 hown3 hgr3 hbel3 _)
      go_roundw
      case rel =>
        refine ⟨j + 1, by omega, by go_num, ?_, hbel3 _ hb⟩
        rw [numL_succ, List.map_append]
        exact hown3
      case measure => simp [intOf]; omega
    · obtain rfl : j = d := by omega
      go_wp2
      go_ret
      obtain ⟨A, c, rfl, hc⟩ := own_form HO.out
      exact ⟨A, c, rfl, hc, QT.own HO.out, hb⟩
end Go.Proofs.YtnchgdjdfhfedaaGreatDoor

set_option linter.unusedSimpArgs false
set_option linter.unusedVariables false
namespace Go.Proofs.YtnchgdjdfhfedaaGreatDoor
open Go.RowKit Go.Ord Go.Baro Go.Maps

/-- The codes as the builder makes them. -/
def putM (d : Nat) : Bs := cell_choose d (cell_mark d (Bs.new (numL d)))
def putS (d j : Nat) : Bs := (List.range j).foldl (fun (s : Bs) (i : Nat) => s.store (nmNum i) nm_copy (8 + (i : Int))) (putM d)
def putB (d : Nat) : Bs := cell_give ((putS d d).store nm_copy nm_zero 6)
def getM : Bs := cell_take (cell_sit (Bs.new []))
def getS (j : Nat) : Bs := (List.range j).foldl (fun (s : Bs) (i : Nat) => s.load (nmNum i) nm_copy (1 + (i : Int))) getM
def getB (d : Nat) : Bs := (((getS d).set nm_free 0).store nm_free nm_seat 2).emit (numL d)
instance : DecidableEq Ins := fun a b => by
  obtain ⟨a1, a2, a3, a4, a5⟩ := a
  obtain ⟨b1, b2, b3, b4, b5⟩ := b
  rw [Ins.mk.injEq]
  infer_instance
theorem putB_fin (d : Nat) (h1 : 1 ≤ d) (h6 : d ≤ 6) : (putB d).fin = some (Cel.putC d) ∧ (∀ j ∈ (putB d).jmps, 0 ≤ j.1 ∧ j.2.length ≤ 1000) ∧ (putB d).jmps.length ≤ 1000 := by
  rcases (by omega : d = 1 ∨ d = 2 ∨ d = 3 ∨ d = 4 ∨ d = 5 ∨ d = 6) with rfl | rfl | rfl | rfl | rfl | rfl <;> exact ⟨by kernel_rfl, by decide +kernel, by decide +kernel⟩
theorem getB_fin (d : Nat) (h1 : 1 ≤ d) (h6 : d ≤ 6) : (getB d).fin = some (Cel.getC d) ∧ (∀ j ∈ (getB d).jmps, 0 ≤ j.1 ∧ j.2.length ≤ 1000) ∧ (getB d).jmps.length ≤ 1000 := by
  rcases (by omega : d = 1 ∨ d = 2 ∨ d = 3 ∨ d = 4 ∨ d = 5 ∨ d = 6) with rfl | rfl | rfl | rfl | rfl | rfl <;> exact ⟨by kernel_rfl, by decide +kernel, by decide +kernel⟩
theorem numL_new (d : Nat) (h6 : d ≤ 6) : ∀ (j : Nat) l, (numL d)[j]? = some l → nmAsk (Bs.new ((numL d).take j)).regs l = none := by
  intro j l hl
  have hj : j < d := by have := (List.getElem?_eq_some_iff.1 hl).1; rw [numL_len] at this; exact this
  have he : l = nmNum j := by simp [numL, hj] at hl; exact hl.symm
  have ht : (numL d).take j = numL j := by simp [numL, ← List.map_take, List.take_range, Nat.min_eq_left (Nat.le_of_lt hj)]
  rw [ht, he]
  rcases (by omega : j = 0 ∨ j = 1 ∨ j = 2 ∨ j = 3 ∨ j = 4 ∨ j = 5) with rfl | rfl | rfl | rfl | rfl | rfl <;> decide +kernel
theorem numL_short (d : Nat) : ∀ x ∈ numL d, x.length ≤ 1000 := by
  intro x hx
  obtain ⟨i, _, rfl⟩ := List.mem_map.1 hx
  show 8 ≤ 1000
  omega
theorem numL_at {d j : Nat} (h : j < d) : (numL d)[j]? = some (nmNum j) := by simp [numL, h]
theorem labs_mark (d : Nat) (s : Bs) : (cell_mark d s).labs = s.labs := by
  unfold cell_mark
  rw [labs_fold (fun b a => by rw [labs_store, labs_load]), labs_store, labs_load, labs_set, labs_fold (fun b a => by rw [labs_store])]
theorem cell_valid (w : World) (d : Int) (hd : inW d) : Calls Tryz.prog 14 #[.int .i64 d] w fun e w' => e = .returned (.bool (decide (1 ≤ d ∧ d ≤ 6))) ∧ w = w' := by
  by_cases h1 : 1 ≤ d
  · by_cases h6 : d ≤ 6
    · go_enter Tryz.func14, Tryz.ntmps14
      go_wp2
      go_ret
      exact ⟨ret_bool (by simp [h1, h6]), rfl⟩
    · have h7 : 6 < d := by omega
      go_enter Tryz.func14, Tryz.ntmps14
      go_wp2
      go_ret
      exact ⟨ret_bool (by simp; omega), rfl⟩
  · have h7 : d < 1 := by omega
    go_enter Tryz.func14, Tryz.ntmps14
    go_wp2
    go_ret
    exact ⟨ret_bool (by simp; omega), rfl⟩
theorem own_cap {w : World} {B : Nat} {e : TypeId} {s n : Nat} {v : Value} {xs : List Value} (h : w.ownsRow B e s v n xs) : ∃ A k, v = .slice A n k ∧ n ≤ k ∧ k ≤ 9223372036854775807 := by
  rcases h.2 with ⟨rfl, rfl⟩ | ⟨g, cap, cur, rfl, _, _, h1, h2, _⟩
  · exact ⟨_, _, rfl, Nat.le_refl _, by omega⟩
  · exact ⟨_, _, rfl, h1, by unfold maxLen at h2; omega⟩
theorem eltIntC : Elt Tryz.prog 22 3 (.int .i64 0) 1 8 := Elt.mk' Tryz.underlying22 (by kernel_rfl) rfl (by decide)
set_option maxHeartbeats 1000000 in
theorem cell_Words : CellWordsSpec Cel.cc := by
  intro w d hd
  have hd' := hd
  unfold inW at hd'
  by_cases hx : 1 ≤ d ∧ d ≤ 6
  · obtain ⟨n, rfl⟩ : ∃ n : Nat, d = n := ⟨d.toNat, by omega⟩
    go_enter Tryz.func5, Tryz.ntmps5
    go_wp2_with fail
    refine (cell_valid _ _ hd).mono ?_
    rintro e w' ⟨he, rfl⟩
    rw [decide_eq_true hx] at he
    subst he
    go_wp2_with fail
    refine (cell_size _ n (by omega)).mono ?_
    rintro e w' ⟨rfl, rfl⟩
    go_wp2_with (refine make_all eltIntC w rfl _ _ rfl w.heap.size .i64 .i64 _ _ (7 + 5 * (1 + n)) rfl rfl (by omega) (by omega) (by omega) (by omega) (Nat.le_refl _) ?_; intro w1 hown1 hb1 hs1 hg1)
    go_ret2
    have hb := hb1 w (Below.refl _ _)
    refine ⟨fun _ => ?_, fun h => absurd hx h, hb⟩
    have hq := QT.own hown1
    refine ⟨_, _, _, rfl, Nat.le_refl _, by omega, ?_⟩
    rw [madeCells_one _ rfl] at hq
    simpa [Cel.cc, Cel.wsC] using hq
  · go_enter Tryz.func5, Tryz.ntmps5
    go_wp2_with fail
    refine (cell_valid _ _ hd).mono ?_
    rintro e w' ⟨he, rfl⟩
    rw [decide_eq_false hx] at he
    subst he
    go_wp2
    go_ret2
    exact ⟨fun h => absurd h hx, fun _ => ⟨_, _, rfl⟩, Below.refl _ _⟩
end Go.Proofs.YtnchgdjdfhfedaaGreatDoor

set_option linter.unusedSimpArgs false
set_option linter.unusedVariables false
namespace Go.Proofs.YtnchgdjdfhfedaaGreatDoor
open Go.RowKit Go.Ord Go.Baro Go.Maps

set_option maxRecDepth 100000 in
set_option maxHeartbeats 4000000 in
theorem cell_Put : CellCodeSpec 6 Cel.cc.cp := by
  intro w hT d hd
  have hd' := hd
  unfold inW at hd'
  by_cases hx : 1 ≤ d ∧ d ≤ 6
  · obtain ⟨n, rfl⟩ : ∃ n : Nat, d = n := ⟨d.toNat, by omega⟩
    have h1 : 1 ≤ n := by omega
    have h6 : n ≤ 6 := by omega
    have HT := Lib.hid hT
    clear hT
    go_enter Tryz.func6, Tryz.ntmps6
    go_wp2_with fail
    refine (cell_valid _ _ hd).mono ?_
    rintro e w' ⟨he, rfl⟩
    rw [decide_eq_true hx] at he
    subst he
    go_wp2_with fail
    refine (cell_numbers _ n h6).mono ?_
    rintro e w1 ⟨A, c, rfl, hc, hqn, hb1⟩
    have HQ := Lib.hid hqn
    clear hqn
    go_wp2_with fail
    refine (asm_New _ A n c (numL n) HQ.out (by omega) (numL_short n) (numL_new n h6)).mono ?_
    rintro e w2 ⟨b, rfl, H⟩
    have HP := Lib.hid H
    clear H
    go_wp2_with fail
    refine (cell_mark_ok _ w1.heap.size b n (Bs.new (numL n)) n HP.out.1 (by omega) h6).mono ?_
    rintro e w3 ⟨rfl, H⟩
    have HP3 := Lib.hid (HP.out.trans H)
    clear H HP
    go_wp2_with fail
    refine (cell_choose_ok _ w1.heap.size b _ (cell_mark n (Bs.new (numL n))) n HP3.out.1 (by omega) h6 (by rw [labs_mark, labs_new]; rfl)).mono ?_
    rintro e w4 ⟨rfl, H⟩
    have HP4 := Lib.hid (HP3.out.trans H)
    clear H HP3
    go_wp2
    go_loopw [23] (fun i wr => ∃ j : Nat, j ≤ n ∧ i = .int .i64 j ∧ Hid (AsmPost w1 w1.heap.size b (putS n j) (n + 47 + 15 + 3 * j) wr)) (fun i _ => n - (intOf i).toNat)
    case atStart => exact ⟨0, Nat.zero_le _, rfl, HP4.out⟩
    case round =>
      obtain ⟨j, hj, rfl, HPj⟩ := hrel
      by_cases hjn : j < n
      · obtain ⟨g, o, l, rfl, hgB, hcell, HXL⟩ := (HQ.out.kc HPj.out.2.1).val hjn
        obtain rfl : l = nmNum j := by have := HXL.out; rw [numL_at hjn] at this; injection this with h; exact h.symm
        go_wp2_with fail
        refine (asm_StoreE _ w1.heap.size b _ (putS n j) (nmNum j) nm_copy _ (8 + (j : Int)) (by first | rfl | omega) HPj.out.1 (by omega) (by show 8 ≤ 1000; omega) (by decide)).mono ?_
        rintro e w5 ⟨rfl, H⟩
        have HP5 := Lib.hid (HPj.out.trans H)
        clear H
        go_wp2
        go_roundw
        case rel =>
          refine ⟨j + 1, by omega, by go_num, ?_⟩
          unfold putS
          rw [List.range_succ, List.foldl_append, show n + 47 + 15 + 3 * (j + 1) = n + 47 + 15 + 3 * j + 3 by omega]
          exact HP5.out
        case measure => simp [intOf]; omega
      · obtain rfl : j = n := by omega
        go_wp2_with fail
        refine (asm_StoreE _ w1.heap.size b _ (putS j j) nm_copy nm_zero _ 6 rfl HPj.out.1 (by omega) (by decide) (by decide)).mono ?_
        rintro e w5 ⟨rfl, H⟩
        have HP5 := Lib.hid (HPj.out.trans H)
        clear H
        go_wp2_with fail
        refine (cell_give_ok _ w1.heap.size b _ ((putS j j).store nm_copy nm_zero 6) HP5.out.1 (by omega)).mono ?_
        rintro e w6 ⟨rfl, H⟩
        have HP6 := Lib.hid (HP5.out.trans H)
        clear H
        obtain ⟨f1, f2, f3⟩ := putB_fin j h1 h6
        have hb6 : Below w.heap.size w w6 := hb1.trans (HP6.out.2.2.mono hb1.size)
        go_wp2_with fail
        refine (asm_Code _ (HT.out.below hb6 HT.out.lt) w1.heap.size b _ (putB j) (Cel.putC j) HP6.out.1 f1 f2 f3).mono ?_
        rintro e w7 ⟨v, rfl, hown, hb7⟩
        obtain ⟨A7, k7, rfl, hk7, hk8⟩ := own_cap hown
        go_wp2
        go_ret2
        exact ⟨fun _ => ⟨_, _, _, rfl, hk7, hk8, QT.own hown⟩, fun h => absurd hx h, hb6.trans (hb7.mono hb6.size)⟩
  · clear hT
    go_enter Tryz.func6, Tryz.ntmps6
    go_wp2_with fail
    refine (cell_valid _ _ hd).mono ?_
    rintro e w' ⟨he, rfl⟩
    rw [decide_eq_false hx] at he
    subst he
    go_wp2
    go_ret2
    exact ⟨fun h => absurd h hx, fun _ => ⟨_, _, rfl⟩, Below.refl _ _⟩
set_option maxRecDepth 100000 in
set_option maxHeartbeats 4000000 in
theorem cell_Get : CellCodeSpec 7 Cel.cc.cg := by
  intro w hT d hd
  have hd' := hd
  unfold inW at hd'
  by_cases hx : 1 ≤ d ∧ d ≤ 6
  · obtain ⟨n, rfl⟩ : ∃ n : Nat, d = n := ⟨d.toNat, by omega⟩
    have h1 : 1 ≤ n := by omega
    have h6 : n ≤ 6 := by omega
    have HT := Lib.hid hT
    clear hT
    go_enter Tryz.func7, Tryz.ntmps7
    go_wp2_with fail
    refine (cell_valid _ _ hd).mono ?_
    rintro e w' ⟨he, rfl⟩
    rw [decide_eq_true hx] at he
    subst he
    go_wp2_with fail
    refine (cell_numbers _ n h6).mono ?_
    rintro e w1 ⟨A, c, rfl, hc, hqn, hb1⟩
    have HQ := Lib.hid hqn
    clear hqn
    go_wp2_with fail
    refine (asm_New _ none 0 0 [] (QT.nil _ _ _ _) (by omega) (by simp) (by simp)).mono ?_
    rintro e w2 ⟨b, rfl, H⟩
    have HP := Lib.hid H
    clear H
    go_wp2_with fail
    refine (cell_sit_ok _ w1.heap.size b 0 (Bs.new []) HP.out.1 (by omega) rfl rfl).mono ?_
    rintro e w3 ⟨rfl, H⟩
    have HP3 := Lib.hid (HP.out.trans H)
    clear H HP
    go_wp2_with fail
    refine (cell_take_ok _ w1.heap.size b _ (cell_sit (Bs.new [])) HP3.out.1 (by omega)).mono ?_
    rintro e w4 ⟨rfl, H⟩
    have HP4 := Lib.hid (HP3.out.trans H)
    clear H HP3
    go_wp2
    go_loopw [20] (fun i wr => ∃ j : Nat, j ≤ n ∧ i = .int .i64 j ∧ Hid (AsmPost w1 w1.heap.size b (getS j) (0 + 21 + 18 + 3 * j) wr)) (fun i _ => n - (intOf i).toNat)
    case atStart => exact ⟨0, Nat.zero_le _, rfl, HP4.out⟩
    case round =>
      obtain ⟨j, hj, rfl, HPj⟩ := hrel
      by_cases hjn : j < n
      · obtain ⟨g, o, l, rfl, hgB, hcell, HXL⟩ := (HQ.out.kc HPj.out.2.1).val hjn
        obtain rfl : l = nmNum j := by have := HXL.out; rw [numL_at hjn] at this; injection this with h; exact h.symm
        go_wp2_with fail
        refine (asm_LoadE _ w1.heap.size b _ (getS j) (nmNum j) nm_copy _ (1 + (j : Int)) (by first | rfl | omega) HPj.out.1 (by omega) (by show 8 ≤ 1000; omega) (by decide)).mono ?_
        rintro e w5 ⟨rfl, H⟩
        have HP5 := Lib.hid (HPj.out.trans H)
        clear H
        go_wp2
        go_roundw
        case rel =>
          refine ⟨j + 1, by omega, by go_num, ?_⟩
          unfold getS
          rw [List.range_succ, List.foldl_append, show 0 + 21 + 18 + 3 * (j + 1) = 0 + 21 + 18 + 3 * j + 3 by omega]
          exact HP5.out
        case measure => simp [intOf]; omega
      · obtain rfl : j = n := by omega
        go_wp2_with fail
        refine (asm_SetE _ w1.heap.size b _ (getS j) nm_free _ 0 rfl HPj.out.1 (by omega) (by decide)).mono ?_
        rintro e w5 ⟨rfl, H⟩
        have HP5 := Lib.hid (HPj.out.trans H)
        clear H
        go_wp2_with fail
        refine (asm_StoreE _ w1.heap.size b _ ((getS j).set nm_free 0) nm_free nm_seat _ 2 rfl HP5.out.1 (by omega) (by decide) (by decide)).mono ?_
        rintro e w6 ⟨rfl, H⟩
        have HP6a := Lib.hid (HP5.out.trans H)
        clear H
        go_wp2_with fail
        refine (asm_Emit _ w1.heap.size b _ (((getS j).set nm_free 0).store nm_free nm_seat 2) A j c (numL j) HP6a.out.1 (by omega) (HQ.out.kc HP6a.out.2.1) (by omega) (numL_short j)).mono ?_
        rintro e w6 ⟨rfl, H⟩
        have HP6 := Lib.hid (HP6a.out.trans H)
        clear H
        obtain ⟨f1, f2, f3⟩ := getB_fin j h1 h6
        have hb6 : Below w.heap.size w w6 := hb1.trans (HP6.out.2.2.mono hb1.size)
        go_wp2_with fail
        refine (asm_Code _ (HT.out.below hb6 HT.out.lt) w1.heap.size b _ (getB j) (Cel.getC j) HP6.out.1 f1 f2 f3).mono ?_
        rintro e w7 ⟨v, rfl, hown, hb7⟩
        obtain ⟨A7, k7, rfl, hk7, hk8⟩ := own_cap hown
        go_wp2
        go_ret2
        exact ⟨fun _ => ⟨_, _, _, rfl, hk7, hk8, QT.own hown⟩, fun h => absurd hx h, hb6.trans (hb7.mono hb6.size)⟩
  · clear hT
    go_enter Tryz.func7, Tryz.ntmps7
    go_wp2_with fail
    refine (cell_valid _ _ hd).mono ?_
    rintro e w' ⟨he, rfl⟩
    rw [decide_eq_false hx] at he
    subst he
    go_wp2
    go_ret2
    exact ⟨fun h => absurd h hx, fun _ => ⟨_, _, rfl⟩, Below.refl _ _⟩
end Go.Proofs.YtnchgdjdfhfedaaGreatDoor

set_option linter.unusedSimpArgs false
set_option linter.unusedVariables false
namespace Go.Proofs.YtnchgdjdfhfedaaGreatDoor
open Go.RowKit Go.Ord Go.Baro
instance (x : Int) : Decidable (inW x) := by unfold inW; infer_instance
instance (o : Ins) : Decidable (inI o) := by unfold inI; infer_instance
theorem cc_ok : Cel.cc.Ok := by
  refine ⟨fun d h1 h6 => ?_, fun d h1 h6 => ?_, fun d h1 h6 => ?_⟩
  · show 0 < (Cel.wsC d).length ∧ (Cel.wsC d).length ≤ 64 ∧ ∀ x ∈ Cel.wsC d, inW x
    refine ⟨by simp [Cel.wsC]; omega, by simp [Cel.wsC]; omega, fun x hx => ?_⟩
    rw [List.eq_of_mem_replicate hx]; unfold inW; omega
  · show 0 < (Cel.putC d).length ∧ okC (Cel.putC d) ∧ ∀ o ∈ Cel.putC d, inI o
    rcases (by omega : d = 1 ∨ d = 2 ∨ d = 3 ∨ d = 4 ∨ d = 5 ∨ d = 6) with rfl | rfl | rfl | rfl | rfl | rfl <;> decide +kernel
  · show 0 < (Cel.getC d).length ∧ okC (Cel.getC d) ∧ ∀ o ∈ Cel.getC d, inI o
    rcases (by omega : d = 1 ∨ d = 2 ∨ d = 3 ∨ d = 4 ∨ d = 5 ∨ d = 6) with rfl | rfl | rfl | rfl | rfl | rfl <;> decide +kernel
end Go.Proofs.YtnchgdjdfhfedaaGreatDoor
