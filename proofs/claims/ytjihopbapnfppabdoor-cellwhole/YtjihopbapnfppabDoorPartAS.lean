/- Of this claim's own texts these, one behind the other: Cell1, Cell2, AlgPure. No statement of the seat is proved here; no condition but those that stand at the theorems. -/
import Derived.Test.YtjihopbapnfppabDoorPartAR
import Derived.Test.YtjihopbapnfppabDoorPartAH
set_option linter.unusedSimpArgs false
set_option linter.unusedVariables false
namespace Go.Proofs.YtjihopbapnfppabDoor
open Go.RowKit Go.Ord Go.Baro Go.Maps

theorem cell_size (w : World) (d : Nat) (hd : d ≤ 6) : Calls Tryd.prog 19 #[.int .i64 d] w fun e w' => e = .returned (.int .i64 (1 + (d : Int))) ∧ w = w' := by
  go_enter Tryd.func19, Tryd.ntmps19
  go_wp2
  go_ret
  exact ⟨rfl, rfl⟩
def nm_zero : Nm := [122, 101, 114, 111]
def nm_mark : Nm := [109, 97, 114, 107]
def nm_copy : Nm := [99, 111, 112, 121]
def nm_address : Nm := [97, 100, 100, 114, 101, 115, 115]
def nm_size : Nm := [115, 105, 122, 101]
def nm_next : Nm := [110, 101, 120, 116]
def nm_first : Nm := [102, 105, 114, 115, 116]
def nm_seeking : Nm := [115, 101, 101, 107, 105, 110, 103]
def nm_given : Nm := [103, 105, 118, 101, 110]
def nm_free : Nm := [102, 114, 101, 101]
def nm_here : Nm := [104, 101, 114, 101]
def nm_taken : Nm := [116, 97, 107, 101, 110]
def nm_seat : Nm := [115, 101, 97, 116]
def nm_seated : Nm := [115, 101, 97, 116, 101, 100]
def nm_one : Nm := [111, 110, 101]
def cell_mark (d : Nat) (s : Bs) : Bs := ((List.range 4).foldl (fun (s : Bs) (i : Nat) => ((s.load nm_address nm_zero (2 + (i : Int))).store nm_mark nm_address (0))) (((((List.range 5).foldl (fun (s : Bs) (i : Nat) => (s.store nm_zero nm_zero (7 + (i : Int) * (1 + (d : Int))))) s).set nm_mark (1)).load nm_copy nm_zero (6)).store nm_mark nm_copy (7)))
set_option maxRecDepth 100000 in
set_option maxHeartbeats 4000000 in
theorem cell_mark_ok (w : World) (B b n : Nat) (s : Bs) (d : Nat) (h : BdAt w B b s n) (hn : n < 10000) (h6 : d ≤ 6) :
    Calls Tryd.prog 22 #[.pointer (some ⟨b, 0, none⟩), .int .i64 d] w fun e w' => e = .returned (.tuple #[]) ∧ AsmPost w B b (cell_mark d s) (n + 47) w' := by
  have HP0 := Lib.hid (show AsmPost w B b s n w from ⟨h, Kc.refl _ _, Below.refl _ _⟩)
  clear h
  go_enter Tryd.func22, Tryd.ntmps22
  go_wp2
  go_loopw [6] (fun i wr => ∃ j : Nat, j ≤ 5 ∧ i = .int .i64 j ∧ Hid (AsmPost w B b ((List.range j).foldl (fun (s : Bs) (i : Nat) => (s.store nm_zero nm_zero (7 + (i : Int) * (1 + (d : Int))))) s) (n + 3 * j) wr)) (fun i _ => 5 - (intOf i).toNat)
  case atStart => exact ⟨0, Nat.zero_le _, rfl, HP0.out⟩
  case round =>
    obtain ⟨i, hi, rfl, HP1⟩ := hrel
    by_cases hi1 : i < 5
    · have hw1 := HP1
      obtain ⟨M2, hM2, hM20, hM21⟩ : ∃ M : Int, (i : Int) * (1 + (d : Int)) = M ∧ 0 ≤ M ∧ M ≤ 28 := ⟨_, rfl, by exact Int.mul_nonneg (by omega) (by omega), by have := Int.mul_le_mul (show (i : Int) ≤ 4 by omega) (show 1 + (d : Int) ≤ 7 by omega) (by omega) (by omega); omega⟩
      go_wp2_with fail
      refine (cell_size _ d h6).mono ?_
      rintro e ws ⟨rfl, rfl⟩
      go_wp2_with fail
      refine (asm_StoreE _ B b (n + 3 * i) ((List.range i).foldl (fun (s : Bs) (i : Nat) => (s.store nm_zero nm_zero (7 + (i : Int) * (1 + (d : Int))))) s) nm_zero nm_zero _ (7 + (i : Int) * (1 + (d : Int))) (by first | rfl | omega) HP1.out.1 (by omega) (by decide) (by decide)).mono ?_
      rintro e w4 ⟨rfl, H⟩
      have HP4 := Lib.hid (HP1.out.trans H)
      clear H
      go_wp2
      go_roundw
      case rel =>
        refine ⟨i + 1, by omega, by go_num, ?_⟩
        rw [show List.range (i + 1) = List.range i ++ [i] from List.range_succ, List.foldl_append, show n + 3 * (i + 1) = ((n + 3 * i) + 3) by omega]
        exact HP4.out
      case measure => simp [intOf]; omega
    · obtain rfl : i = 5 := by omega
      go_wp2_with fail
      refine (asm_SetE _ B b (n + 3 * 5) ((List.range 5).foldl (fun (s : Bs) (i : Nat) => (s.store nm_zero nm_zero (7 + (i : Int) * (1 + (d : Int))))) s) nm_mark _ (1) (by first | rfl | omega) HP1.out.1 (by omega) (by decide)).mono ?_
      rintro e w5 ⟨rfl, H⟩
      have HP5 := Lib.hid (HP1.out.trans H)
      clear H
      go_wp2_with fail
      refine (asm_LoadE _ B b ((n + 3 * 5) + 2) (((List.range 5).foldl (fun (s : Bs) (i : Nat) => (s.store nm_zero nm_zero (7 + (i : Int) * (1 + (d : Int))))) s).set nm_mark (1)) nm_copy nm_zero _ (6) (by first | rfl | omega) HP5.out.1 (by omega) (by decide) (by decide)).mono ?_
      rintro e w6 ⟨rfl, H⟩
      have HP6 := Lib.hid (HP5.out.trans H)
      clear H
      go_wp2_with fail
      refine (asm_StoreE _ B b (((n + 3 * 5) + 2) + 3) ((((List.range 5).foldl (fun (s : Bs) (i : Nat) => (s.store nm_zero nm_zero (7 + (i : Int) * (1 + (d : Int))))) s).set nm_mark (1)).load nm_copy nm_zero (6)) nm_mark nm_copy _ (7) (by first | rfl | omega) HP6.out.1 (by omega) (by decide) (by decide)).mono ?_
      rintro e w7 ⟨rfl, H⟩
      have HP7 := Lib.hid (HP6.out.trans H)
      clear H
      go_wp2
      go_loopw [23] (fun i wr => ∃ j : Nat, j ≤ 4 ∧ i = .int .i64 j ∧ Hid (AsmPost w B b ((List.range j).foldl (fun (s : Bs) (i : Nat) => ((s.load nm_address nm_zero (2 + (i : Int))).store nm_mark nm_address (0))) (((((List.range 5).foldl (fun (s : Bs) (i : Nat) => (s.store nm_zero nm_zero (7 + (i : Int) * (1 + (d : Int))))) s).set nm_mark (1)).load nm_copy nm_zero (6)).store nm_mark nm_copy (7))) (((((n + 3 * 5) + 2) + 3) + 3) + 6 * j) wr)) (fun i _ => 4 - (intOf i).toNat)
      case atStart => exact ⟨0, Nat.zero_le _, rfl, HP7.out⟩
      case round =>
        obtain ⟨i, hi, rfl, HP8⟩ := hrel
        by_cases hi1 : i < 4
        · have hw8 := HP8
          go_wp2_with fail
          refine (asm_LoadE _ B b (((((n + 3 * 5) + 2) + 3) + 3) + 6 * i) ((List.range i).foldl (fun (s : Bs) (i : Nat) => ((s.load nm_address nm_zero (2 + (i : Int))).store nm_mark nm_address (0))) (((((List.range 5).foldl (fun (s : Bs) (i : Nat) => (s.store nm_zero nm_zero (7 + (i : Int) * (1 + (d : Int))))) s).set nm_mark (1)).load nm_copy nm_zero (6)).store nm_mark nm_copy (7))) nm_address nm_zero _ (2 + (i : Int)) (by first | rfl | omega) HP8.out.1 (by omega) (by decide) (by decide)).mono ?_
          rintro e w9 ⟨rfl, H⟩
          have HP9 := Lib.hid (HP8.out.trans H)
          clear H
          go_wp2_with fail
          refine (asm_StoreE _ B b ((((((n + 3 * 5) + 2) + 3) + 3) + 6 * i) + 3) (((List.range i).foldl (fun (s : Bs) (i : Nat) => ((s.load nm_address nm_zero (2 + (i : Int))).store nm_mark nm_address (0))) (((((List.range 5).foldl (fun (s : Bs) (i : Nat) => (s.store nm_zero nm_zero (7 + (i : Int) * (1 + (d : Int))))) s).set nm_mark (1)).load nm_copy nm_zero (6)).store nm_mark nm_copy (7))).load nm_address nm_zero (2 + (i : Int))) nm_mark nm_address _ (0) (by first | rfl | omega) HP9.out.1 (by omega) (by decide) (by decide)).mono ?_
          rintro e w10 ⟨rfl, H⟩
          have HP10 := Lib.hid (HP9.out.trans H)
          clear H
          go_wp2
          go_roundw
          case rel =>
            refine ⟨i + 1, by omega, by go_num, ?_⟩
            rw [show List.range (i + 1) = List.range i ++ [i] from List.range_succ, List.foldl_append, show ((((n + 3 * 5) + 2) + 3) + 3) + 6 * (i + 1) = (((((((n + 3 * 5) + 2) + 3) + 3) + 6 * i) + 3) + 3) by omega]
            exact HP10.out
          case measure => simp [intOf]; omega
        · obtain rfl : i = 4 := by omega
          go_wp2
          refine bodyPost_end (v := .tuple #[]) (results_noneA rfl _ _) rfl ?_
          have := HP8.out
          rw [show (((((n + 3 * 5) + 2) + 3) + 3) + 6 * 4) = n + 47 by omega] at this
          exact ⟨rfl, this⟩
def cell_choose (d : Nat) (s : Bs) : Bs := ((((((s.set nm_size ((1 + (d : Int)))).set nm_copy (-(1 + (d : Int)))).lab nm_next).op3 3 nm_copy nm_copy nm_size).load nm_mark nm_copy (7)).when nm_mark nm_next)
set_option maxRecDepth 100000 in
set_option maxHeartbeats 4000000 in
theorem cell_choose_ok (w : World) (B b n : Nat) (s : Bs) (d : Nat) (h : BdAt w B b s n) (hn : n < 10000) (h6 : d ≤ 6) (ha : nmAsk s.labs nm_next = none) :
    Calls Tryd.prog 23 #[.pointer (some ⟨b, 0, none⟩), .int .i64 d] w fun e w' => e = .returned (.tuple #[]) ∧ AsmPost w B b (cell_choose d s) (n + 15) w' := by
  have HP0 := Lib.hid (show AsmPost w B b s n w from ⟨h, Kc.refl _ _, Below.refl _ _⟩)
  clear h
  go_enter Tryd.func23, Tryd.ntmps23
  go_wp2_with fail
  refine (cell_size _ d h6).mono ?_
  rintro e ws ⟨rfl, rfl⟩
  go_wp2_with fail
  refine (asm_SetE _ B b n s nm_size _ ((1 + (d : Int))) (by first | rfl | omega) HP0.out.1 (by omega) (by decide)).mono ?_
  rintro e w2 ⟨rfl, H⟩
  have HP2 := Lib.hid (HP0.out.trans H)
  clear H
  go_wp2_with fail
  refine (cell_size _ d h6).mono ?_
  rintro e ws ⟨rfl, rfl⟩
  go_wp2_with fail
  refine (asm_SetE _ B b (n + 2) (s.set nm_size ((1 + (d : Int)))) nm_copy _ (-(1 + (d : Int))) (by first | rfl | omega) HP2.out.1 (by omega) (by decide)).mono ?_
  rintro e w4 ⟨rfl, H⟩
  have HP4 := Lib.hid (HP2.out.trans H)
  clear H
  go_wp2_with fail
  refine (asm_Label _ B b ((n + 2) + 2) ((s.set nm_size ((1 + (d : Int)))).set nm_copy (-(1 + (d : Int)))) nm_next HP4.out.1 (by omega) (by decide) (by try simp only [labs_set, labs_copy, labs_op3, labs_jump, labs_when, labs_load, labs_store, labs_cas, labs_new]; (first | assumption | (refine nmAsk_lab ?_ (by decide); try simp only [labs_set, labs_copy, labs_op3, labs_jump, labs_when, labs_load, labs_store, labs_cas, labs_new]; (first | assumption | (refine nmAsk_lab ?_ (by decide); try simp only [labs_set, labs_copy, labs_op3, labs_jump, labs_when, labs_load, labs_store, labs_cas, labs_new]; assumption)))))).mono ?_
  rintro e w5 ⟨rfl, H⟩
  have HP5 := Lib.hid (HP4.out.trans H)
  clear H
  go_wp2_with fail
  refine (asm_Add _ B b (((n + 2) + 2) + 1) (((s.set nm_size ((1 + (d : Int)))).set nm_copy (-(1 + (d : Int)))).lab nm_next) nm_copy nm_copy nm_size HP5.out.1 (by omega) (by decide) (by decide) (by decide)).mono ?_
  rintro e w6 ⟨rfl, H⟩
  have HP6 := Lib.hid (HP5.out.trans H)
  clear H
  go_wp2_with fail
  refine (asm_LoadE _ B b ((((n + 2) + 2) + 1) + 4) ((((s.set nm_size ((1 + (d : Int)))).set nm_copy (-(1 + (d : Int)))).lab nm_next).op3 3 nm_copy nm_copy nm_size) nm_mark nm_copy _ (7) (by first | rfl | omega) HP6.out.1 (by omega) (by decide) (by decide)).mono ?_
  rintro e w7 ⟨rfl, H⟩
  have HP7 := Lib.hid (HP6.out.trans H)
  clear H
  go_wp2_with fail
  refine (asm_When _ B b (((((n + 2) + 2) + 1) + 4) + 3) (((((s.set nm_size ((1 + (d : Int)))).set nm_copy (-(1 + (d : Int)))).lab nm_next).op3 3 nm_copy nm_copy nm_size).load nm_mark nm_copy (7)) nm_mark nm_next HP7.out.1 (by omega) (by decide) (by decide)).mono ?_
  rintro e w8 ⟨rfl, H⟩
  have HP8 := Lib.hid (HP7.out.trans H)
  clear H
  go_wp2
  refine bodyPost_end (v := .tuple #[]) (results_noneA rfl _ _) rfl ?_
  have := HP8.out
  rw [show ((((((n + 2) + 2) + 1) + 4) + 3) + 3) = n + 15 by omega] at this
  exact ⟨rfl, this⟩
def cell_give (s : Bs) : Bs := ((List.range 4).foldl (fun (s : Bs) (i : Nat) => ((s.copy nm_given nm_address).cas nm_given nm_zero (2 + (i : Int)) nm_seeking)) (((s.set nm_first (7)).op3 3 nm_address nm_copy nm_first).set nm_seeking (1)))
set_option maxRecDepth 100000 in
set_option maxHeartbeats 4000000 in
theorem cell_give_ok (w : World) (B b n : Nat) (s : Bs) (h : BdAt w B b s n) (hn : n < 10000) :
    Calls Tryd.prog 25 #[.pointer (some ⟨b, 0, none⟩)] w fun e w' => e = .returned (.tuple #[]) ∧ AsmPost w B b (cell_give s) (n + 36) w' := by
  have HP0 := Lib.hid (show AsmPost w B b s n w from ⟨h, Kc.refl _ _, Below.refl _ _⟩)
  clear h
  go_enter Tryd.func25, Tryd.ntmps25
  go_wp2_with fail
  refine (asm_SetE _ B b n s nm_first _ (7) (by first | rfl | omega) HP0.out.1 (by omega) (by decide)).mono ?_
  rintro e w1 ⟨rfl, H⟩
  have HP1 := Lib.hid (HP0.out.trans H)
  clear H
  go_wp2_with fail
  refine (asm_Add _ B b (n + 2) (s.set nm_first (7)) nm_address nm_copy nm_first HP1.out.1 (by omega) (by decide) (by decide) (by decide)).mono ?_
  rintro e w2 ⟨rfl, H⟩
  have HP2 := Lib.hid (HP1.out.trans H)
  clear H
  go_wp2_with fail
  refine (asm_SetE _ B b ((n + 2) + 4) ((s.set nm_first (7)).op3 3 nm_address nm_copy nm_first) nm_seeking _ (1) (by first | rfl | omega) HP2.out.1 (by omega) (by decide)).mono ?_
  rintro e w3 ⟨rfl, H⟩
  have HP3 := Lib.hid (HP2.out.trans H)
  clear H
  go_wp2
  go_loopw [9] (fun i wr => ∃ j : Nat, j ≤ 4 ∧ i = .int .i64 j ∧ Hid (AsmPost w B b ((List.range j).foldl (fun (s : Bs) (i : Nat) => ((s.copy nm_given nm_address).cas nm_given nm_zero (2 + (i : Int)) nm_seeking)) (((s.set nm_first (7)).op3 3 nm_address nm_copy nm_first).set nm_seeking (1))) ((((n + 2) + 4) + 2) + 7 * j) wr)) (fun i _ => 4 - (intOf i).toNat)
  case atStart => exact ⟨0, Nat.zero_le _, rfl, HP3.out⟩
  case round =>
    obtain ⟨i, hi, rfl, HP4⟩ := hrel
    by_cases hi1 : i < 4
    · have hw4 := HP4
      go_wp2_with fail
      refine (asm_Copy _ B b ((((n + 2) + 4) + 2) + 7 * i) ((List.range i).foldl (fun (s : Bs) (i : Nat) => ((s.copy nm_given nm_address).cas nm_given nm_zero (2 + (i : Int)) nm_seeking)) (((s.set nm_first (7)).op3 3 nm_address nm_copy nm_first).set nm_seeking (1))) nm_given nm_address HP4.out.1 (by omega) (by decide) (by decide)).mono ?_
      rintro e w5 ⟨rfl, H⟩
      have HP5 := Lib.hid (HP4.out.trans H)
      clear H
      go_wp2_with fail
      refine (asm_CasE _ B b (((((n + 2) + 4) + 2) + 7 * i) + 3) (((List.range i).foldl (fun (s : Bs) (i : Nat) => ((s.copy nm_given nm_address).cas nm_given nm_zero (2 + (i : Int)) nm_seeking)) (((s.set nm_first (7)).op3 3 nm_address nm_copy nm_first).set nm_seeking (1))).copy nm_given nm_address) nm_given nm_zero _ (2 + (i : Int)) nm_seeking (by first | rfl | omega) HP5.out.1 (by omega) (by decide) (by decide) (by decide)).mono ?_
      rintro e w6 ⟨rfl, H⟩
      have HP6 := Lib.hid (HP5.out.trans H)
      clear H
      go_wp2
      go_roundw
      case rel =>
        refine ⟨i + 1, by omega, by go_num, ?_⟩
        rw [show List.range (i + 1) = List.range i ++ [i] from List.range_succ, List.foldl_append, show (((n + 2) + 4) + 2) + 7 * (i + 1) = ((((((n + 2) + 4) + 2) + 7 * i) + 3) + 4) by omega]
        exact HP6.out
      case measure => simp [intOf]; omega
    · obtain rfl : i = 4 := by omega
      go_wp2
      refine bodyPost_end (v := .tuple #[]) (results_noneA rfl _ _) rfl ?_
      have := HP4.out
      rw [show ((((n + 2) + 4) + 2) + 7 * 4) = n + 36 by omega] at this
      exact ⟨rfl, this⟩
def cell_sit (s : Bs) : Bs := (((((((((s.set nm_free (0)).lab nm_here).set nm_taken (1)).cas nm_taken nm_seat (2) nm_free).when nm_taken nm_seated).set nm_one (1)).op3 3 nm_seat nm_seat nm_one).jump nm_here).lab nm_seated)
set_option maxRecDepth 100000 in
set_option maxHeartbeats 4000000 in
theorem cell_sit_ok (w : World) (B b n : Nat) (s : Bs) (h : BdAt w B b s n) (hn : n < 10000) (ha : nmAsk s.labs nm_here = none) (ha2 : nmAsk s.labs nm_seated = none) :
    Calls Tryd.prog 27 #[.pointer (some ⟨b, 0, none⟩)] w fun e w' => e = .returned (.tuple #[]) ∧ AsmPost w B b (cell_sit s) (n + 21) w' := by
  have HP0 := Lib.hid (show AsmPost w B b s n w from ⟨h, Kc.refl _ _, Below.refl _ _⟩)
  clear h
  go_enter Tryd.func27, Tryd.ntmps27
  go_wp2_with fail
  refine (asm_SetE _ B b n s nm_free _ (0) (by first | rfl | omega) HP0.out.1 (by omega) (by decide)).mono ?_
  rintro e w1 ⟨rfl, H⟩
  have HP1 := Lib.hid (HP0.out.trans H)
  clear H
  go_wp2_with fail
  refine (asm_Label _ B b (n + 2) (s.set nm_free (0)) nm_here HP1.out.1 (by omega) (by decide) (by try simp only [labs_set, labs_copy, labs_op3, labs_jump, labs_when, labs_load, labs_store, labs_cas, labs_new]; (first | assumption | (refine nmAsk_lab ?_ (by decide); try simp only [labs_set, labs_copy, labs_op3, labs_jump, labs_when, labs_load, labs_store, labs_cas, labs_new]; (first | assumption | (refine nmAsk_lab ?_ (by decide); try simp only [labs_set, labs_copy, labs_op3, labs_jump, labs_when, labs_load, labs_store, labs_cas, labs_new]; assumption)))))).mono ?_
  rintro e w2 ⟨rfl, H⟩
  have HP2 := Lib.hid (HP1.out.trans H)
  clear H
  go_wp2_with fail
  refine (asm_SetE _ B b ((n + 2) + 1) ((s.set nm_free (0)).lab nm_here) nm_taken _ (1) (by first | rfl | omega) HP2.out.1 (by omega) (by decide)).mono ?_
  rintro e w3 ⟨rfl, H⟩
  have HP3 := Lib.hid (HP2.out.trans H)
  clear H
  go_wp2_with fail
  refine (asm_CasE _ B b (((n + 2) + 1) + 2) (((s.set nm_free (0)).lab nm_here).set nm_taken (1)) nm_taken nm_seat _ (2) nm_free (by first | rfl | omega) HP3.out.1 (by omega) (by decide) (by decide) (by decide)).mono ?_
  rintro e w4 ⟨rfl, H⟩
  have HP4 := Lib.hid (HP3.out.trans H)
  clear H
  go_wp2_with fail
  refine (asm_When _ B b ((((n + 2) + 1) + 2) + 4) ((((s.set nm_free (0)).lab nm_here).set nm_taken (1)).cas nm_taken nm_seat (2) nm_free) nm_taken nm_seated HP4.out.1 (by omega) (by decide) (by decide)).mono ?_
  rintro e w5 ⟨rfl, H⟩
  have HP5 := Lib.hid (HP4.out.trans H)
  clear H
  go_wp2_with fail
  refine (asm_SetE _ B b (((((n + 2) + 1) + 2) + 4) + 3) (((((s.set nm_free (0)).lab nm_here).set nm_taken (1)).cas nm_taken nm_seat (2) nm_free).when nm_taken nm_seated) nm_one _ (1) (by first | rfl | omega) HP5.out.1 (by omega) (by decide)).mono ?_
  rintro e w6 ⟨rfl, H⟩
  have HP6 := Lib.hid (HP5.out.trans H)
  clear H
  go_wp2_with fail
  refine (asm_Add _ B b ((((((n + 2) + 1) + 2) + 4) + 3) + 2) ((((((s.set nm_free (0)).lab nm_here).set nm_taken (1)).cas nm_taken nm_seat (2) nm_free).when nm_taken nm_seated).set nm_one (1)) nm_seat nm_seat nm_one HP6.out.1 (by omega) (by decide) (by decide) (by decide)).mono ?_
  rintro e w7 ⟨rfl, H⟩
  have HP7 := Lib.hid (HP6.out.trans H)
  clear H
  go_wp2_with fail
  refine (asm_Jump _ B b (((((((n + 2) + 1) + 2) + 4) + 3) + 2) + 4) (((((((s.set nm_free (0)).lab nm_here).set nm_taken (1)).cas nm_taken nm_seat (2) nm_free).when nm_taken nm_seated).set nm_one (1)).op3 3 nm_seat nm_seat nm_one) nm_here HP7.out.1 (by omega) (by decide)).mono ?_
  rintro e w8 ⟨rfl, H⟩
  have HP8 := Lib.hid (HP7.out.trans H)
  clear H
  go_wp2_with fail
  refine (asm_Label _ B b ((((((((n + 2) + 1) + 2) + 4) + 3) + 2) + 4) + 2) ((((((((s.set nm_free (0)).lab nm_here).set nm_taken (1)).cas nm_taken nm_seat (2) nm_free).when nm_taken nm_seated).set nm_one (1)).op3 3 nm_seat nm_seat nm_one).jump nm_here) nm_seated HP8.out.1 (by omega) (by decide) (by try simp only [labs_set, labs_copy, labs_op3, labs_jump, labs_when, labs_load, labs_store, labs_cas, labs_new]; (first | assumption | (refine nmAsk_lab ?_ (by decide); try simp only [labs_set, labs_copy, labs_op3, labs_jump, labs_when, labs_load, labs_store, labs_cas, labs_new]; (first | assumption | (refine nmAsk_lab ?_ (by decide); try simp only [labs_set, labs_copy, labs_op3, labs_jump, labs_when, labs_load, labs_store, labs_cas, labs_new]; assumption)))))).mono ?_
  rintro e w9 ⟨rfl, H⟩
  have HP9 := Lib.hid (HP8.out.trans H)
  clear H
  go_wp2
  refine bodyPost_end (v := .tuple #[]) (results_noneA rfl _ _) rfl ?_
  have := HP9.out
  rw [show (((((((((n + 2) + 1) + 2) + 4) + 3) + 2) + 4) + 2) + 1) = n + 21 by omega] at this
  exact ⟨rfl, this⟩
def cell_take (s : Bs) : Bs := ((((((s.load nm_copy nm_zero (6)).set nm_first (7)).op3 3 nm_copy nm_copy nm_first).set nm_seeking (1)).cas nm_copy nm_seat (2) nm_seeking).load nm_copy nm_seat (2))
set_option maxRecDepth 100000 in
set_option maxHeartbeats 4000000 in
theorem cell_take_ok (w : World) (B b n : Nat) (s : Bs) (h : BdAt w B b s n) (hn : n < 10000) :
    Calls Tryd.prog 28 #[.pointer (some ⟨b, 0, none⟩)] w fun e w' => e = .returned (.tuple #[]) ∧ AsmPost w B b (cell_take s) (n + 18) w' := by
  have HP0 := Lib.hid (show AsmPost w B b s n w from ⟨h, Kc.refl _ _, Below.refl _ _⟩)
  clear h
  go_enter Tryd.func28, Tryd.ntmps28
  go_wp2_with fail
  refine (asm_LoadE _ B b n s nm_copy nm_zero _ (6) (by first | rfl | omega) HP0.out.1 (by omega) (by decide) (by decide)).mono ?_
  rintro e w1 ⟨rfl, H⟩
  have HP1 := Lib.hid (HP0.out.trans H)
  clear H
  go_wp2_with fail
  refine (asm_SetE _ B b (n + 3) (s.load nm_copy nm_zero (6)) nm_first _ (7) (by first | rfl | omega) HP1.out.1 (by omega) (by decide)).mono ?_
  rintro e w2 ⟨rfl, H⟩
  have HP2 := Lib.hid (HP1.out.trans H)
  clear H
  go_wp2_with fail
  refine (asm_Add _ B b ((n + 3) + 2) ((s.load nm_copy nm_zero (6)).set nm_first (7)) nm_copy nm_copy nm_first HP2.out.1 (by omega) (by decide) (by decide) (by decide)).mono ?_
  rintro e w3 ⟨rfl, H⟩
  have HP3 := Lib.hid (HP2.out.trans H)
  clear H
  go_wp2_with fail
  refine (asm_SetE _ B b (((n + 3) + 2) + 4) (((s.load nm_copy nm_zero (6)).set nm_first (7)).op3 3 nm_copy nm_copy nm_first) nm_seeking _ (1) (by first | rfl | omega) HP3.out.1 (by omega) (by decide)).mono ?_
  rintro e w4 ⟨rfl, H⟩
  have HP4 := Lib.hid (HP3.out.trans H)
  clear H
  go_wp2_with fail
  refine (asm_CasE _ B b ((((n + 3) + 2) + 4) + 2) ((((s.load nm_copy nm_zero (6)).set nm_first (7)).op3 3 nm_copy nm_copy nm_first).set nm_seeking (1)) nm_copy nm_seat _ (2) nm_seeking (by first | rfl | omega) HP4.out.1 (by omega) (by decide) (by decide) (by decide)).mono ?_
  rintro e w5 ⟨rfl, H⟩
  have HP5 := Lib.hid (HP4.out.trans H)
  clear H
  go_wp2_with fail
  refine (asm_LoadE _ B b (((((n + 3) + 2) + 4) + 2) + 4) (((((s.load nm_copy nm_zero (6)).set nm_first (7)).op3 3 nm_copy nm_copy nm_first).set nm_seeking (1)).cas nm_copy nm_seat (2) nm_seeking) nm_copy nm_seat _ (2) (by first | rfl | omega) HP5.out.1 (by omega) (by decide) (by decide)).mono ?_
  rintro e w6 ⟨rfl, H⟩
  have HP6 := Lib.hid (HP5.out.trans H)
  clear H
  go_wp2
  refine bodyPost_end (v := .tuple #[]) (results_noneA rfl _ _) rfl ?_
  have := HP6.out
  rw [show ((((((n + 3) + 2) + 4) + 2) + 4) + 3) = n + 18 by omega] at this
  exact ⟨rfl, this⟩
end Go.Proofs.YtjihopbapnfppabDoor

set_option linter.unusedSimpArgs false
set_option linter.unusedVariables false
namespace Go.Proofs.YtjihopbapnfppabDoor
open Go.RowKit Go.Ord Go.Baro Go.Maps

theorem eltStr : Elt Tryd.prog 54 9 (.string ⟨#[]⟩) 1 16 := Elt.mk' Tryd.underlying54 (by kernel_rfl) rfl (by decide)
def digit (i : Nat) : UInt8 := UInt8.ofNat (48 + i)
theorem std_small (i : Nat) (hi : i < 6) (w : World) : Calls Tryd.prog 67 #[.int .i64 i] w fun e w' => e = .returned (.string ⟨#[digit i]⟩) ∧ w = w' := by
  rcases (by omega : i = 0 ∨ i = 1 ∨ i = 2 ∨ i = 3 ∨ i = 4 ∨ i = 5) with rfl | rfl | rfl | rfl | rfl | rfl
  all_goals
    go_enter Tryd.func67, Tryd.ntmps67
    go_wp2
    go_ret
    exact ⟨by congr 1, rfl⟩
theorem std_FormatInt (i : Nat) (hi : i < 6) (w : World) : Calls Tryd.prog 62 #[.int .i64 i, .int .i64 10] w fun e w' => e = .returned (.string ⟨#[digit i]⟩) ∧ w = w' := by
  go_enter Tryd.func62, Tryd.ntmps62
  go_wp2_with fail
  refine (std_small i hi _).mono ?_
  rintro e w' ⟨rfl, rfl⟩
  go_wp2
  go_ret
  exact ⟨rfl, rfl⟩
theorem std_ItoaI (i : Nat) (hi : i < 6) (w : World) : Calls Tryd.prog 53 #[.int .i64 i] w fun e w' => e = .returned (.string ⟨#[digit i]⟩) ∧ w = w' := by
  go_enter Tryd.func53, Tryd.ntmps53
  go_wp2_with fail
  refine (std_FormatInt i hi _).mono ?_
  rintro e w' ⟨rfl, rfl⟩
  go_wp2
  go_ret
  exact ⟨rfl, rfl⟩
theorem std_Itoa (i : Nat) (hi : i < 6) (w : World) : Calls Tryd.prog 37 #[.int .i64 i] w fun e w' => e = .returned (.string ⟨#[digit i]⟩) ∧ w = w' := by
  go_enter Tryd.func37, Tryd.ntmps37
  go_wp2_with fail
  refine (std_ItoaI i hi _).mono ?_
  rintro e w' ⟨rfl, rfl⟩
  go_wp2
  go_ret
  exact ⟨rfl, rfl⟩
/-- The names of the registers with the numbers of the record. -/
def nmNum (i : Nat) : Nm := [110, 117, 109, 98, 101, 114, 32, digit i]
def numL (d : Nat) : List Nm := (List.range d).map nmNum
theorem numL_len (d : Nat) : (numL d).length = d := by simp [numL]
theorem numL_succ (d : Nat) : numL (d + 1) = numL d ++ [nmNum d] := by simp [numL, List.range_succ]
theorem num_app (x : UInt8) : (⟨#[110, 117, 109, 98, 101, 114, 32]⟩ : ByteArray) ++ ⟨#[x]⟩ = ⟨#[110, 117, 109, 98, 101, 114, 32, x]⟩ := by rfl
set_option maxRecDepth 100000 in
set_option maxHeartbeats 1000000 in
theorem cell_numbers (w : World) (d : Nat) (h6 : d ≤ 6) : Calls Tryd.prog 20 #[.int .i64 d] w fun e w' => ∃ A c, e = .returned (.slice A d c) ∧ d ≤ c ∧ QN w' A d (numL d) ∧ Below w.heap.size w w' := by
  go_enter Tryd.func20, Tryd.ntmps20
  go_wp2
  go_loopw [3, 6] (fun v i wr => ∃ j : Nat, j ≤ d ∧ i = .int .i64 j ∧ Hid (wr.ownsRow w.heap.size 9 1 v j ((numL j).map nmV)) ∧ Below w.heap.size w wr) (fun _ i _ => d - (intOf i).toNat)
  case atStart => exact ⟨0, Nat.zero_le _, rfl, World.ownsRow_nil _ _ _ _, Below.refl _ _⟩
  case round =>
    obtain ⟨j, hj, rfl, HO, hb⟩ := hrel
    have hsz := hb.size
    by_cases h1 : j < d
    · have hna := num_app (digit j)
      go_wp2_with fail
      refine (std_Itoa j (by omega) _).mono ?_
      rintro e w' ⟨rfl, rfl⟩
      go_wp2_with (at_builtin; go_must (refine app_lit eltStr wr rfl _ _ rfl w.heap.size _ j _ rfl (by exact HO.out) 1 [.string ⟨#[110, 117, 109, 98, 101, 114, 32, digit j]⟩] wr.heap.size rfl rfl rfl (by simp [Value.oneCell']) (by omega) (by omega) hsz ?_); intro v3 w3 hown3 hgr3 hbel3 _)
      go_roundw
      case rel =>
        refine ⟨j + 1, by omega, by go_num, ?_, hbel3 _ hb⟩
        rw [numL_succ, List.map_append]
        exact hown3
      case measure => simp [intOf]; omega
    · obtain rfl : j = d := by omega
      go_wp2
      go_ret
      obtain ⟨A, c, rfl, hc⟩ := own_form HO.out
      exact ⟨A, c, rfl, hc, QT.own HO.out, hb⟩
end Go.Proofs.YtjihopbapnfppabDoor

set_option linter.unusedSimpArgs false
set_option linter.unusedVariables false
namespace Go.Baro
open Go.RowKit (wrap64)

/-- A word. -/
def rd (w : List Int) (n : Nat) : Int := w[n]?.getD 0
theorem rd_set {w : List Int} {n m : Nat} {v : Int} (h : n < w.length) : rd (w.set n v) m = if m = n then v else rd w m := by
  unfold rd
  rw [List.getElem?_set]
  by_cases hm : n = m
  · subst hm; simp [h]
  · rw [if_neg hm, if_neg (fun e => hm e.symm)]
theorem rd_same {w : List Int} {n : Nat} {v : Int} (h : n < w.length) : rd (w.set n v) n = v := by rw [rd_set h, if_pos rfl]
theorem rd_other {w : List Int} {n m : Nat} {v : Int} (h : m ≠ n) : rd (w.set n v) m = rd w m := by
  unfold rd
  rw [List.getElem?_set_ne (fun e => h e.symm)]
theorem at_rd {w : List Int} {n : Nat} (h : n < w.length) : w[n]? = some (rd w n) := by simp [rd, h]
theorem wrap_id {x : Int} (h : -9223372036854775808 ≤ x ∧ x ≤ 9223372036854775807) : wrap64 x = x := by unfold wrap64; omega

/-- A run under one more step. -/
theorem ply_snoc (m : Mc) (S : List Nat) (n : Nat) (g : Gs) : plyG m 0 (S ++ [n]) g = actG m (plyG m 0 S g) S.length n := by
  rw [plyG_append]
  simp [plyG]
/-- What holds of a run behind each part of its schedule. -/
theorem plyG_indS {m : Mc} {I : List Nat → Gs → Prop} {A : Nat → Prop} (h0 : I [] (g0 m)) (hs : ∀ S g n, A n → I S g → I (S ++ [n]) (actG m g S.length n)) : ∀ (S : List Nat), (∀ n ∈ S, A n) → I S (plyG m 0 S (g0 m)) := by
  suffices h : ∀ (k : Nat) (S : List Nat), S.length = k → (∀ n ∈ S, A n) → I S (plyG m 0 S (g0 m)) from fun S => h S.length S rfl
  intro k
  induction k with
  | zero => intro S hS _; obtain rfl := List.eq_nil_of_length_eq_zero hS; exact h0
  | succ k ih =>
    intro S hS hA
    obtain ⟨T, n, rfl⟩ : ∃ T n, S = T ++ [n] := ⟨S.dropLast, S.getLast (by rintro rfl; simp at hS), (List.dropLast_concat_getLast _).symm⟩
    rw [ply_snoc]
    exact hs T _ n (hA n (by simp)) (ih T (by simp at hS; exact hS) (fun x hx => hA x (by simp [hx])))

/-- A step of a call without an error. -/
def Nx (c : List Ins) (p : Nat) (r : Int → Int) (t w : List Int) (p' : Nat) (r' : Int → Int) (t' w' : List Int) : Prop :=
  exc ⟨c, p, r, t⟩ w = (⟨c, p', r', t'⟩, w', 0, decide (p' = c.length))
section
variable {c : List Ins} {p : Nat} {r : Int → Int} {t w : List Int} {a b k e : Int}
theorem nx_of {o : Ins} {p' : Nat} {r' : Int → Int} {t' w' : List Int} (h : c[p]? = some o) (hs : stp c.length o ⟨p, r, w, t⟩ = (⟨p', r', w', t'⟩, 0)) : Nx c p r t w p' r' t' w' := by
  have hp := (List.getElem?_eq_some_iff.1 h).1
  unfold Nx exc
  rw [if_neg (by dsimp only; omega)]
  dsimp only
  rw [Int.toNat_natCast, h, Option.getD_some, hs]
  have : decide (((0 : Int) ≠ 0) ∨ ((p' : Int) = (c.length : Int))) = decide (p' = c.length) := by
    by_cases hq : p' = c.length
    · simp [hq]
    · have : ¬ ((p' : Int) = (c.length : Int)) := by omega
      simp [hq, this]
  rw [this]
theorem nx_set (h : c[p]? = some ⟨1, a, b, 0, 0⟩) : Nx c p r t w (p + 1) (upd r a b) t w := nx_of h (by rw [stp_1]; simp)
theorem nx_copy (h : c[p]? = some ⟨2, a, b, 0, 0⟩) : Nx c p r t w (p + 1) (upd r a (r b)) t w := nx_of h (by rw [stp_2]; simp)
theorem nx_cmp {o : Int} (h : c[p]? = some ⟨o, a, b, k, 0⟩) (ho : 3 ≤ o ∧ o ≤ 9) : Nx c p r t w (p + 1) (upd r a (cmpV o (r b) (r k))) t w := nx_of h (by rw [stp_cmp ho]; simp)
theorem nx_add {v : Int} (h : c[p]? = some ⟨3, a, b, k, 0⟩) (hv : wrap64 (r b + r k) = v) : Nx c p r t w (p + 1) (upd r a v) t w := by
  have := nx_cmp (r := r) (t := t) (w := w) h (by omega)
  rwa [show cmpV 3 (r b) (r k) = v by simp [cmpV, hv]] at this
theorem nx_jump {q : Nat} (h : c[p]? = some ⟨10, q, 0, 0, 0⟩) : Nx c p r t w q r t w := nx_of h (by rw [stp_10])
theorem nx_whenN {q : Nat} (h : c[p]? = some ⟨11, a, q, 0, 0⟩) (hr : r a ≠ 0) : Nx c p r t w q r t w := nx_of h (by rw [stp_11]; simp [hr])
theorem nx_whenZ {q : Int} (h : c[p]? = some ⟨11, a, q, 0, 0⟩) (hr : r a = 0) : Nx c p r t w (p + 1) r t w := nx_of h (by rw [stp_11]; simp [hr])
theorem nx_unlZ {q : Nat} (h : c[p]? = some ⟨12, a, q, 0, 0⟩) (hr : r a = 0) : Nx c p r t w q r t w := nx_of h (by rw [stp_12]; simp [hr])
theorem nx_unlN {q : Int} (h : c[p]? = some ⟨12, a, q, 0, 0⟩) (hr : r a ≠ 0) : Nx c p r t w (p + 1) r t w := nx_of h (by rw [stp_12]; simp [hr])
theorem nx_load {q : Nat} (h : c[p]? = some ⟨13, a, b, k, 0⟩) (hq : wrap64 (r b + k) = q) (hl : q < w.length) : Nx c p r t w (p + 1) (upd r a (rd w q)) t w := nx_of h (by rw [stp_13 hq (at_rd hl)]; simp)
theorem nx_store {q : Nat} (h : c[p]? = some ⟨14, a, b, k, 0⟩) (hq : wrap64 (r b + k) = q) (hl : q < w.length) : Nx c p r t w (p + 1) r t (w.set q (r a)) := nx_of h (by rw [stp_14 hq hl]; simp)
theorem nx_casT {q : Nat} (h : c[p]? = some ⟨15, a, b, k, e⟩) (hq : wrap64 (r b + k) = q) (hl : q < w.length) (hx : rd w q = r e) : Nx c p r t w (p + 1) (upd r a 1) t (w.set q (r a)) := nx_of h (by rw [stp_15t hq (at_rd hl) hx]; simp)
theorem nx_casF {q : Nat} (h : c[p]? = some ⟨15, a, b, k, e⟩) (hq : wrap64 (r b + k) = q) (hl : q < w.length) (hx : rd w q ≠ r e) : Nx c p r t w (p + 1) (upd r a 0) t w := nx_of h (by rw [stp_15f hq (at_rd hl) hx]; simp)
theorem nx_emit (h : c[p]? = some ⟨16, a, 0, 0, 0⟩) (ht : t.length < 200) : Nx c p r t w (p + 1) r (t ++ [r a]) w := nx_of h (by rw [stp_16, if_neg (by dsimp only; omega)]; simp)
theorem nx_stop (h : c[p]? = some ⟨17, 0, 0, 0, 0⟩) : Nx c p r t w c.length r t w := nx_of h (by rw [stp_17])
/-- What a step without an error leads to. -/
theorem exG_nx {g : Gs} {st n : Nat} {p' : Nat} {r' : Int → Int} {t' w' : List Int} (hn : (g.th n).now = some ⟨c, p, r, t⟩) (h : Nx c p r t g.w p' r' t' w') :
    exG g st n = if p' = c.length then ⟨w', putT g.th n ⟨none, (g.th n).bg⟩, g.out ++ [⟨st, n, (g.th n).bg - 1, true, 0, t'⟩]⟩ else ⟨w', putT g.th n ⟨some ⟨c, p', r', t'⟩, (g.th n).bg⟩, g.out⟩ := by
  have hq : (exc ⟨c, p, r, t⟩ g.w).2.2.2 = decide (p' = c.length) := by rw [h]
  by_cases hp : p' = c.length
  · rw [if_pos hp, exG_end hn (by rw [hq]; simp [hp]), h]
  · rw [if_neg hp, exG_go hn (by rw [hq]; simp [hp]), h]
end

/-- The steps of a call so far: k of a thread's open call; no call takes more than B of its thread's. -/
def Cnt (S : List Nat) (g : Gs) (k : Nat → Nat) (B : Nat → Nat) : Prop := ∀ x ∈ dgs g.out, x.b ≤ S.length ∧ (x.e = -1 → (S.drop x.b).count x.th = k x.th) ∧ (x.e ≠ -1 → x.e + 1 ≤ S.length ∧ ((S.take (x.e + 1).toNat).drop x.b).count x.th ≤ B x.th)
def upN (f : Nat → Nat) (n v : Nat) : Nat → Nat := fun i => if i = n then v else f i
theorem upN_same (f : Nat → Nat) (n v : Nat) : upN f n v n = v := by simp [upN]
theorem upN_other (f : Nat → Nat) {n i : Nat} (v : Nat) (h : i ≠ n) : upN f n v i = f i := by simp [upN, h]
theorem cnt_zero (m : Mc) (k B : Nat → Nat) : Cnt [] (g0 m) k B := by intro x hx; simp [g0, dgs] at hx
/-- A call begins. -/
theorem cnt_begin {m : Mc} {S : List Nat} {g : Gs} {k B : Nat → Nat} {n : Nat} {c : Cl} (h : Cnt S g k B) (hs : Hs S.length S.length g) (hn : (g.th n).now = none) {T : Nat → Td} {w : List Int} :
    Cnt S ⟨w, T, g.out ++ [⟨S.length, n, (g.th n).bg, false, 0, []⟩]⟩ (upN k n 0) B := by
  intro x hx
  rw [show dgs (g.out ++ [⟨S.length, n, (g.th n).bg, false, 0, []⟩]) = dgs g.out ++ [⟨S.length, -1, n, (g.th n).bg, []⟩] by rw [dgs_snoc, dg1_begin _ _ rfl]] at hx
  rcases List.mem_append.1 hx with hx | hx
  · obtain ⟨h1, h2, h3⟩ := h x hx
    refine ⟨h1, fun he => ?_, h3⟩
    have ho := ((hs.opn x hx).1 he).1
    rw [upN_other _ _ (by rintro e; rw [e] at ho; exact ho hn)]
    exact h2 he
  · rw [List.mem_singleton.1 hx]
    refine ⟨Nat.le_refl _, fun _ => ?_, fun h => absurd rfl h⟩
    dsimp only
    rw [upN_same, List.drop_eq_nil_of_le (Nat.le_refl _)]
    rfl
/-- The step counts for the thread's open call. -/
theorem cnt_go {S : List Nat} {g g' : Gs} {k B : Nat → Nat} {n : Nat} (h : Cnt S g k B) (ho : g'.out = g.out) : Cnt (S ++ [n]) g' (upN k n (k n + 1)) B := by
  intro x hx
  rw [ho] at hx
  obtain ⟨h1, h2, h3⟩ := h x hx
  refine ⟨by rw [List.length_append]; omega, fun he => ?_, fun he => ?_⟩
  · rw [List.drop_append_of_le_length h1, List.count_append, h2 he]
    by_cases hx : x.th = n
    · rw [hx, upN_same]; simp
    · rw [upN_other _ _ hx, List.count_singleton]
      have hx' : ¬ n = x.th := fun e => hx e.symm
      simp [hx']
  · obtain ⟨h4, h5⟩ := h3 he
    refine ⟨by rw [List.length_append]; omega, ?_⟩
    rw [List.take_append_of_le_length (by omega)]
    exact h5
/-- The step ends the thread's call. -/
theorem cnt_end {S : List Nat} {g g' : Gs} {k B : Nat → Nat} {n : Nat} {x : Ev} (h : Cnt S g k B) (ho : g'.out = g.out ++ [x]) (he : x.en = true) (hs : x.st = S.length) (ht : x.th = n) (hk : k n + 1 ≤ B n)
    (hopn : ∀ d ∈ dgs g.out, d.e = -1 → d.th = n → d.is x) : Cnt (S ++ [n]) g' (upN k n (k n + 1)) B := by
  intro y hy
  rw [ho, dgs_snoc, dg1_end _ _ he] at hy
  obtain ⟨d, hd, q1, q2, q3, ⟨q4, q5, q6⟩ | ⟨q4, rfl⟩⟩ := fin_mem hy
  · obtain ⟨h1, h2, h3⟩ := h d hd
    have hde : d.e = -1 := q4.2.2
    have hdt : d.th = n := by rw [q4.1, ht]
    rw [q1, q2, q5, hs]
    refine ⟨by rw [List.length_append]; omega, fun h => by omega, fun _ => ⟨by rw [List.length_append, List.length_singleton]; omega, ?_⟩⟩
    rw [show ((S.length : Int) + 1).toNat = (S ++ [n]).length by rw [List.length_append, List.length_singleton]; omega, List.take_length, List.drop_append_of_le_length h1, List.count_append, h2 hde, hdt]
    simpa using hk
  · obtain ⟨h1, h2, h3⟩ := h y hd
    refine ⟨by rw [List.length_append]; omega, fun he => ?_, fun he => ?_⟩
    · have hx : y.th ≠ n := fun e => q4 (hopn y hd he e)
      rw [List.drop_append_of_le_length h1, List.count_append, h2 he, upN_other _ _ hx, List.count_singleton]
      have hx' : ¬ n = y.th := fun e => hx e.symm
      simp [hx']
    · obtain ⟨h4, h5⟩ := h3 he
      refine ⟨by rw [List.length_append]; omega, ?_⟩
      rw [List.take_append_of_le_length (by omega)]
      exact h5
/-- The calls behind an end: all but the one that has ended are as they were. -/
theorem dgs_end {g : Gs} {sb se n : Nat} {x : Ev} (hs : Hs sb se g) (hn : (g.th n).now ≠ none) (he : x.en = true) (ht : x.th = n) (hc : x.cl = (g.th n).bg - 1) :
    ∃ o ∈ dgs g.out, o.th = n ∧ o.cl = (g.th n).bg - 1 ∧ o.e = -1 ∧ (∀ y ∈ dgs g.out, y.e = -1 → y.th = n → y = o ∧ y.is x) ∧
      (∀ y ∈ dgs (g.out ++ [x]), (y ∈ dgs g.out ∧ y ≠ o ∧ ¬ (y.th = n ∧ y.cl = (g.th n).bg - 1)) ∨ y = ⟨o.b, x.st, n, (g.th n).bg - 1, x.to⟩) ∧
      (∀ y ∈ dgs g.out, y ≠ o → y ∈ dgs (g.out ++ [x])) ∧ ⟨o.b, x.st, n, (g.th n).bg - 1, x.to⟩ ∈ dgs (g.out ++ [x]) := by
  obtain ⟨o, ho, h1, h2, h3, h4⟩ := hs.live hn
  have hu : ∀ y ∈ dgs g.out, y.e = -1 → y.th = n → y = o := fun y hy he hyn => hs.one y hy o ho (by rw [hyn, h1]) (by
    have := ((hs.opn y hy).1 he).2
    rw [hyn] at this; omega)
  have hiso : o.is x := ⟨by rw [h1, ht], by rw [h2, hc], h3⟩
  have hD : dgs (g.out ++ [x]) = (dgs g.out).map (fun d => d.fin x) := by rw [dgs_snoc, dg1_end _ _ he]
  have hfo : o.fin x = ⟨o.b, x.st, n, (g.th n).bg - 1, x.to⟩ := by unfold Dg.fin; rw [if_pos hiso, h1, h2]
  refine ⟨o, ho, h1, h2, h3, fun y hy he' hyn => ⟨hu y hy he' hyn, by rw [hu y hy he' hyn]; exact hiso⟩, fun y hy => ?_, fun y hy hne => ?_, ?_⟩
  · rw [hD] at hy
    obtain ⟨d, hd, rfl⟩ := List.mem_map.1 hy
    by_cases hdo : d = o
    · subst hdo; exact .inr hfo
    · have hnis : ¬ d.is x := fun hi => hdo (hu d hd hi.2.2 (by rw [hi.1, ht]))
      have : d.fin x = d := by unfold Dg.fin; rw [if_neg hnis]
      rw [this]
      exact .inl ⟨hd, hdo, fun hh => hdo (hs.one d hd o ho (by rw [hh.1, h1]) (by rw [hh.2, h2]))⟩
  · rw [hD]
    refine List.mem_map.2 ⟨y, hy, ?_⟩
    unfold Dg.fin
    rw [if_neg]
    intro hi
    exact hne (hu y hy hi.2.2 (by rw [hi.1, ht]))
  · rw [hD]; exact List.mem_map.2 ⟨o, ho, hfo⟩
/-- The calls behind a beginning. -/
theorem dgs_begin (g : Gs) (st n c : Nat) : dgs (g.out ++ [⟨st, n, c, false, 0, []⟩]) = dgs g.out ++ [⟨st, -1, n, c, []⟩] := by rw [dgs_snoc, dg1_begin _ _ rfl]
end Go.Baro
