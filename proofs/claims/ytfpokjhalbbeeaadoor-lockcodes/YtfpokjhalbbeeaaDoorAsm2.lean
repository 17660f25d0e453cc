/- The builder of codes: its methods, one instruction each. No statement of the seat is proved here; no condition. -/
import Derived.Test.YtfpokjhalbbeeaaDoorAsm1
set_option linter.unusedSimpArgs false
set_option linter.unusedVariables false
namespace Go.Proofs.YtfpokjhalbbeeaaDoor
open Go.RowKit Go.Ord Go.Baro Go.Maps

theorem AsmPost.trans {w w1 w2 : World} {B b n n' : Nat} {s s' : Bs} (h : AsmPost w B b s n w1) (k : AsmPost w1 B b s' n' w2) : AsmPost w B b s' n' w2 := ⟨k.1, h.2.1.trans k.2.1, h.2.2.trans k.2.2⟩
set_option maxHeartbeats 1000000 in
theorem asm_Set (w : World) (B b n : Nat) (s : Bs) (x0 : Nm) (x1 : Int) (h : BdAt w B b s n) (hn : n < 90000) (h0 : x0.length ≤ 1000) :
    Calls Tryd.prog 24 #[.pointer (some ⟨b, 0, none⟩), nmV x0, .int .i64 x1] w fun e w' => e = .returned (.tuple #[]) ∧ AsmPost w B b (s.set x0 x1) (n + 2) w' := by
  go_enter Tryd.func24, Tryd.ntmps24
  go_wp2_with fail
  refine (asm_register _ B b (n + 0) (s) x0 h (by omega) h0).mono ?_
  rintro e w1 ⟨rfl, H⟩
  have H1 := Lib.hid H
  clear H
  go_wp2_with fail
  refine (asm_append _ B b (n + 1) (((s).rg x0).1) ⟨1, ((s).rg x0).2, x1, 0, 0⟩ H1.out.1 (by omega)).mono ?_
  rintro e w2 ⟨rfl, H⟩
  have H2 := Lib.hid H
  clear H
  go_wp2
  refine bodyPost_end (v := .tuple #[]) (results_noneA rfl _ _) rfl ?_
  exact ⟨rfl, (H1.out.trans H2.out)⟩
theorem asm_SetE (w : World) (B b n : Nat) (s : Bs) (x0 : Nm) (y : Int) (x1 : Int) (hy : y = x1) (h : BdAt w B b s n) (hn : n < 90000) (h0 : x0.length ≤ 1000) :
    Calls Tryd.prog 24 #[.pointer (some ⟨b, 0, none⟩), nmV x0, .int .i64 y] w fun e w' => e = .returned (.tuple #[]) ∧ AsmPost w B b (s.set x0 x1) (n + 2) w' := by
  subst hy
  exact asm_Set w B b n s x0 y h hn h0
set_option maxHeartbeats 1000000 in
theorem asm_Copy (w : World) (B b n : Nat) (s : Bs) (x0 : Nm) (x1 : Nm) (h : BdAt w B b s n) (hn : n < 90000) (h0 : x0.length ≤ 1000) (h1 : x1.length ≤ 1000) :
    Calls Tryd.prog 32 #[.pointer (some ⟨b, 0, none⟩), nmV x0, nmV x1] w fun e w' => e = .returned (.tuple #[]) ∧ AsmPost w B b (s.copy x0 x1) (n + 3) w' := by
  go_enter Tryd.func32, Tryd.ntmps32
  go_wp2_with fail
  refine (asm_register _ B b (n + 0) (s) x0 h (by omega) h0).mono ?_
  rintro e w1 ⟨rfl, H⟩
  have H1 := Lib.hid H
  clear H
  go_wp2_with fail
  refine (asm_register _ B b (n + 1) (((s).rg x0).1) x1 H1.out.1 (by omega) h1).mono ?_
  rintro e w2 ⟨rfl, H⟩
  have H2 := Lib.hid H
  clear H
  go_wp2_with fail
  refine (asm_append _ B b (n + 2) (((((s).rg x0).1).rg x1).1) ⟨2, ((s).rg x0).2, ((((s).rg x0).1).rg x1).2, 0, 0⟩ H2.out.1 (by omega)).mono ?_
  rintro e w3 ⟨rfl, H⟩
  have H3 := Lib.hid H
  clear H
  go_wp2
  refine bodyPost_end (v := .tuple #[]) (results_noneA rfl _ _) rfl ?_
  exact ⟨rfl, ((H1.out.trans H2.out).trans H3.out)⟩
set_option maxHeartbeats 1000000 in
theorem asm_Add (w : World) (B b n : Nat) (s : Bs) (x0 : Nm) (x1 : Nm) (x2 : Nm) (h : BdAt w B b s n) (hn : n < 90000) (h0 : x0.length ≤ 1000) (h1 : x1.length ≤ 1000) (h2 : x2.length ≤ 1000) :
    Calls Tryd.prog 40 #[.pointer (some ⟨b, 0, none⟩), nmV x0, nmV x1, nmV x2] w fun e w' => e = .returned (.tuple #[]) ∧ AsmPost w B b (s.op3 3 x0 x1 x2) (n + 4) w' := by
  go_enter Tryd.func40, Tryd.ntmps40
  go_wp2_with fail
  refine (asm_register _ B b (n + 0) (s) x0 h (by omega) h0).mono ?_
  rintro e w1 ⟨rfl, H⟩
  have H1 := Lib.hid H
  clear H
  go_wp2_with fail
  refine (asm_register _ B b (n + 1) (((s).rg x0).1) x1 H1.out.1 (by omega) h1).mono ?_
  rintro e w2 ⟨rfl, H⟩
  have H2 := Lib.hid H
  clear H
  go_wp2_with fail
  refine (asm_register _ B b (n + 2) (((((s).rg x0).1).rg x1).1) x2 H2.out.1 (by omega) h2).mono ?_
  rintro e w3 ⟨rfl, H⟩
  have H3 := Lib.hid H
  clear H
  go_wp2_with fail
  refine (asm_append _ B b (n + 3) (((((((s).rg x0).1).rg x1).1).rg x2).1) ⟨3, ((s).rg x0).2, ((((s).rg x0).1).rg x1).2, ((((((s).rg x0).1).rg x1).1).rg x2).2, 0⟩ H3.out.1 (by omega)).mono ?_
  rintro e w4 ⟨rfl, H⟩
  have H4 := Lib.hid H
  clear H
  go_wp2
  refine bodyPost_end (v := .tuple #[]) (results_noneA rfl _ _) rfl ?_
  exact ⟨rfl, (((H1.out.trans H2.out).trans H3.out).trans H4.out)⟩
set_option maxHeartbeats 1000000 in
theorem asm_Sub (w : World) (B b n : Nat) (s : Bs) (x0 : Nm) (x1 : Nm) (x2 : Nm) (h : BdAt w B b s n) (hn : n < 90000) (h0 : x0.length ≤ 1000) (h1 : x1.length ≤ 1000) (h2 : x2.length ≤ 1000) :
    Calls Tryd.prog 43 #[.pointer (some ⟨b, 0, none⟩), nmV x0, nmV x1, nmV x2] w fun e w' => e = .returned (.tuple #[]) ∧ AsmPost w B b (s.op3 4 x0 x1 x2) (n + 4) w' := by
  go_enter Tryd.func43, Tryd.ntmps43
  go_wp2_with fail
  refine (asm_register _ B b (n + 0) (s) x0 h (by omega) h0).mono ?_
  rintro e w1 ⟨rfl, H⟩
  have H1 := Lib.hid H
  clear H
  go_wp2_with fail
  refine (asm_register _ B b (n + 1) (((s).rg x0).1) x1 H1.out.1 (by omega) h1).mono ?_
  rintro e w2 ⟨rfl, H⟩
  have H2 := Lib.hid H
  clear H
  go_wp2_with fail
  refine (asm_register _ B b (n + 2) (((((s).rg x0).1).rg x1).1) x2 H2.out.1 (by omega) h2).mono ?_
  rintro e w3 ⟨rfl, H⟩
  have H3 := Lib.hid H
  clear H
  go_wp2_with fail
  refine (asm_append _ B b (n + 3) (((((((s).rg x0).1).rg x1).1).rg x2).1) ⟨4, ((s).rg x0).2, ((((s).rg x0).1).rg x1).2, ((((((s).rg x0).1).rg x1).1).rg x2).2, 0⟩ H3.out.1 (by omega)).mono ?_
  rintro e w4 ⟨rfl, H⟩
  have H4 := Lib.hid H
  clear H
  go_wp2
  refine bodyPost_end (v := .tuple #[]) (results_noneA rfl _ _) rfl ?_
  exact ⟨rfl, (((H1.out.trans H2.out).trans H3.out).trans H4.out)⟩
set_option maxHeartbeats 1000000 in
theorem asm_Div (w : World) (B b n : Nat) (s : Bs) (x0 : Nm) (x1 : Nm) (x2 : Nm) (h : BdAt w B b s n) (hn : n < 90000) (h0 : x0.length ≤ 1000) (h1 : x1.length ≤ 1000) (h2 : x2.length ≤ 1000) :
    Calls Tryd.prog 34 #[.pointer (some ⟨b, 0, none⟩), nmV x0, nmV x1, nmV x2] w fun e w' => e = .returned (.tuple #[]) ∧ AsmPost w B b (s.op3 6 x0 x1 x2) (n + 4) w' := by
  go_enter Tryd.func34, Tryd.ntmps34
  go_wp2_with fail
  refine (asm_register _ B b (n + 0) (s) x0 h (by omega) h0).mono ?_
  rintro e w1 ⟨rfl, H⟩
  have H1 := Lib.hid H
  clear H
  go_wp2_with fail
  refine (asm_register _ B b (n + 1) (((s).rg x0).1) x1 H1.out.1 (by omega) h1).mono ?_
  rintro e w2 ⟨rfl, H⟩
  have H2 := Lib.hid H
  clear H
  go_wp2_with fail
  refine (asm_register _ B b (n + 2) (((((s).rg x0).1).rg x1).1) x2 H2.out.1 (by omega) h2).mono ?_
  rintro e w3 ⟨rfl, H⟩
  have H3 := Lib.hid H
  clear H
  go_wp2_with fail
  refine (asm_append _ B b (n + 3) (((((((s).rg x0).1).rg x1).1).rg x2).1) ⟨6, ((s).rg x0).2, ((((s).rg x0).1).rg x1).2, ((((((s).rg x0).1).rg x1).1).rg x2).2, 0⟩ H3.out.1 (by omega)).mono ?_
  rintro e w4 ⟨rfl, H⟩
  have H4 := Lib.hid H
  clear H
  go_wp2
  refine bodyPost_end (v := .tuple #[]) (results_noneA rfl _ _) rfl ?_
  exact ⟨rfl, (((H1.out.trans H2.out).trans H3.out).trans H4.out)⟩
set_option maxHeartbeats 1000000 in
theorem asm_Rem (w : World) (B b n : Nat) (s : Bs) (x0 : Nm) (x1 : Nm) (x2 : Nm) (h : BdAt w B b s n) (hn : n < 90000) (h0 : x0.length ≤ 1000) (h1 : x1.length ≤ 1000) (h2 : x2.length ≤ 1000) :
    Calls Tryd.prog 42 #[.pointer (some ⟨b, 0, none⟩), nmV x0, nmV x1, nmV x2] w fun e w' => e = .returned (.tuple #[]) ∧ AsmPost w B b (s.op3 7 x0 x1 x2) (n + 4) w' := by
  go_enter Tryd.func42, Tryd.ntmps42
  go_wp2_with fail
  refine (asm_register _ B b (n + 0) (s) x0 h (by omega) h0).mono ?_
  rintro e w1 ⟨rfl, H⟩
  have H1 := Lib.hid H
  clear H
  go_wp2_with fail
  refine (asm_register _ B b (n + 1) (((s).rg x0).1) x1 H1.out.1 (by omega) h1).mono ?_
  rintro e w2 ⟨rfl, H⟩
  have H2 := Lib.hid H
  clear H
  go_wp2_with fail
  refine (asm_register _ B b (n + 2) (((((s).rg x0).1).rg x1).1) x2 H2.out.1 (by omega) h2).mono ?_
  rintro e w3 ⟨rfl, H⟩
  have H3 := Lib.hid H
  clear H
  go_wp2_with fail
  refine (asm_append _ B b (n + 3) (((((((s).rg x0).1).rg x1).1).rg x2).1) ⟨7, ((s).rg x0).2, ((((s).rg x0).1).rg x1).2, ((((((s).rg x0).1).rg x1).1).rg x2).2, 0⟩ H3.out.1 (by omega)).mono ?_
  rintro e w4 ⟨rfl, H⟩
  have H4 := Lib.hid H
  clear H
  go_wp2
  refine bodyPost_end (v := .tuple #[]) (results_noneA rfl _ _) rfl ?_
  exact ⟨rfl, (((H1.out.trans H2.out).trans H3.out).trans H4.out)⟩
set_option maxHeartbeats 1000000 in
theorem asm_Same (w : World) (B b n : Nat) (s : Bs) (x0 : Nm) (x1 : Nm) (x2 : Nm) (h : BdAt w B b s n) (hn : n < 90000) (h0 : x0.length ≤ 1000) (h1 : x1.length ≤ 1000) (h2 : x2.length ≤ 1000) :
    Calls Tryd.prog 30 #[.pointer (some ⟨b, 0, none⟩), nmV x0, nmV x1, nmV x2] w fun e w' => e = .returned (.tuple #[]) ∧ AsmPost w B b (s.op3 8 x0 x1 x2) (n + 4) w' := by
  go_enter Tryd.func30, Tryd.ntmps30
  go_wp2_with fail
  refine (asm_register _ B b (n + 0) (s) x0 h (by omega) h0).mono ?_
  rintro e w1 ⟨rfl, H⟩
  have H1 := Lib.hid H
  clear H
  go_wp2_with fail
  refine (asm_register _ B b (n + 1) (((s).rg x0).1) x1 H1.out.1 (by omega) h1).mono ?_
  rintro e w2 ⟨rfl, H⟩
  have H2 := Lib.hid H
  clear H
  go_wp2_with fail
  refine (asm_register _ B b (n + 2) (((((s).rg x0).1).rg x1).1) x2 H2.out.1 (by omega) h2).mono ?_
  rintro e w3 ⟨rfl, H⟩
  have H3 := Lib.hid H
  clear H
  go_wp2_with fail
  refine (asm_append _ B b (n + 3) (((((((s).rg x0).1).rg x1).1).rg x2).1) ⟨8, ((s).rg x0).2, ((((s).rg x0).1).rg x1).2, ((((((s).rg x0).1).rg x1).1).rg x2).2, 0⟩ H3.out.1 (by omega)).mono ?_
  rintro e w4 ⟨rfl, H⟩
  have H4 := Lib.hid H
  clear H
  go_wp2
  refine bodyPost_end (v := .tuple #[]) (results_noneA rfl _ _) rfl ?_
  exact ⟨rfl, (((H1.out.trans H2.out).trans H3.out).trans H4.out)⟩
set_option maxHeartbeats 1000000 in
theorem asm_When (w : World) (B b n : Nat) (s : Bs) (x0 : Nm) (x1 : Nm) (h : BdAt w B b s n) (hn : n < 90000) (h0 : x0.length ≤ 1000) (h1 : x1.length ≤ 1000) :
    Calls Tryd.prog 31 #[.pointer (some ⟨b, 0, none⟩), nmV x0, nmV x1] w fun e w' => e = .returned (.tuple #[]) ∧ AsmPost w B b (s.when x0 x1) (n + 3) w' := by
  go_enter Tryd.func31, Tryd.ntmps31
  go_wp2_with fail
  refine (asm_jump _ B b (n + 0) (s) x1 h (by omega) h1).mono ?_
  rintro e w1 ⟨rfl, H⟩
  have H1 := Lib.hid H
  clear H
  go_wp2_with fail
  refine (asm_register _ B b (n + 1) ((s).jmp x1) x0 H1.out.1 (by omega) h0).mono ?_
  rintro e w2 ⟨rfl, H⟩
  have H2 := Lib.hid H
  clear H
  go_wp2_with fail
  refine (asm_append _ B b (n + 2) ((((s).jmp x1).rg x0).1) ⟨11, (((s).jmp x1).rg x0).2, 0, 0, 0⟩ H2.out.1 (by omega)).mono ?_
  rintro e w3 ⟨rfl, H⟩
  have H3 := Lib.hid H
  clear H
  go_wp2
  refine bodyPost_end (v := .tuple #[]) (results_noneA rfl _ _) rfl ?_
  exact ⟨rfl, ((H1.out.trans H2.out).trans H3.out)⟩
set_option maxHeartbeats 1000000 in
theorem asm_Unless (w : World) (B b n : Nat) (s : Bs) (x0 : Nm) (x1 : Nm) (h : BdAt w B b s n) (hn : n < 90000) (h0 : x0.length ≤ 1000) (h1 : x1.length ≤ 1000) :
    Calls Tryd.prog 29 #[.pointer (some ⟨b, 0, none⟩), nmV x0, nmV x1] w fun e w' => e = .returned (.tuple #[]) ∧ AsmPost w B b (s.unless x0 x1) (n + 3) w' := by
  go_enter Tryd.func29, Tryd.ntmps29
  go_wp2_with fail
  refine (asm_jump _ B b (n + 0) (s) x1 h (by omega) h1).mono ?_
  rintro e w1 ⟨rfl, H⟩
  have H1 := Lib.hid H
  clear H
  go_wp2_with fail
  refine (asm_register _ B b (n + 1) ((s).jmp x1) x0 H1.out.1 (by omega) h0).mono ?_
  rintro e w2 ⟨rfl, H⟩
  have H2 := Lib.hid H
  clear H
  go_wp2_with fail
  refine (asm_append _ B b (n + 2) ((((s).jmp x1).rg x0).1) ⟨12, (((s).jmp x1).rg x0).2, 0, 0, 0⟩ H2.out.1 (by omega)).mono ?_
  rintro e w3 ⟨rfl, H⟩
  have H3 := Lib.hid H
  clear H
  go_wp2
  refine bodyPost_end (v := .tuple #[]) (results_noneA rfl _ _) rfl ?_
  exact ⟨rfl, ((H1.out.trans H2.out).trans H3.out)⟩
set_option maxHeartbeats 1000000 in
theorem asm_Load (w : World) (B b n : Nat) (s : Bs) (x0 : Nm) (x1 : Nm) (x2 : Int) (h : BdAt w B b s n) (hn : n < 90000) (h0 : x0.length ≤ 1000) (h1 : x1.length ≤ 1000) :
    Calls Tryd.prog 28 #[.pointer (some ⟨b, 0, none⟩), nmV x0, nmV x1, .int .i64 x2] w fun e w' => e = .returned (.tuple #[]) ∧ AsmPost w B b (s.load x0 x1 x2) (n + 3) w' := by
  go_enter Tryd.func28, Tryd.ntmps28
  go_wp2_with fail
  refine (asm_register _ B b (n + 0) (s) x0 h (by omega) h0).mono ?_
  rintro e w1 ⟨rfl, H⟩
  have H1 := Lib.hid H
  clear H
  go_wp2_with fail
  refine (asm_register _ B b (n + 1) (((s).rg x0).1) x1 H1.out.1 (by omega) h1).mono ?_
  rintro e w2 ⟨rfl, H⟩
  have H2 := Lib.hid H
  clear H
  go_wp2_with fail
  refine (asm_append _ B b (n + 2) (((((s).rg x0).1).rg x1).1) ⟨13, ((s).rg x0).2, ((((s).rg x0).1).rg x1).2, x2, 0⟩ H2.out.1 (by omega)).mono ?_
  rintro e w3 ⟨rfl, H⟩
  have H3 := Lib.hid H
  clear H
  go_wp2
  refine bodyPost_end (v := .tuple #[]) (results_noneA rfl _ _) rfl ?_
  exact ⟨rfl, ((H1.out.trans H2.out).trans H3.out)⟩
theorem asm_LoadE (w : World) (B b n : Nat) (s : Bs) (x0 : Nm) (x1 : Nm) (y : Int) (x2 : Int) (hy : y = x2) (h : BdAt w B b s n) (hn : n < 90000) (h0 : x0.length ≤ 1000) (h1 : x1.length ≤ 1000) :
    Calls Tryd.prog 28 #[.pointer (some ⟨b, 0, none⟩), nmV x0, nmV x1, .int .i64 y] w fun e w' => e = .returned (.tuple #[]) ∧ AsmPost w B b (s.load x0 x1 x2) (n + 3) w' := by
  subst hy
  exact asm_Load w B b n s x0 x1 y h hn h0 h1
set_option maxHeartbeats 1000000 in
theorem asm_Store (w : World) (B b n : Nat) (s : Bs) (x0 : Nm) (x1 : Nm) (x2 : Int) (h : BdAt w B b s n) (hn : n < 90000) (h0 : x0.length ≤ 1000) (h1 : x1.length ≤ 1000) :
    Calls Tryd.prog 27 #[.pointer (some ⟨b, 0, none⟩), nmV x0, nmV x1, .int .i64 x2] w fun e w' => e = .returned (.tuple #[]) ∧ AsmPost w B b (s.store x0 x1 x2) (n + 3) w' := by
  go_enter Tryd.func27, Tryd.ntmps27
  go_wp2_with fail
  refine (asm_register _ B b (n + 0) (s) x0 h (by omega) h0).mono ?_
  rintro e w1 ⟨rfl, H⟩
  have H1 := Lib.hid H
  clear H
  go_wp2_with fail
  refine (asm_register _ B b (n + 1) (((s).rg x0).1) x1 H1.out.1 (by omega) h1).mono ?_
  rintro e w2 ⟨rfl, H⟩
  have H2 := Lib.hid H
  clear H
  go_wp2_with fail
  refine (asm_append _ B b (n + 2) (((((s).rg x0).1).rg x1).1) ⟨14, ((s).rg x0).2, ((((s).rg x0).1).rg x1).2, x2, 0⟩ H2.out.1 (by omega)).mono ?_
  rintro e w3 ⟨rfl, H⟩
  have H3 := Lib.hid H
  clear H
  go_wp2
  refine bodyPost_end (v := .tuple #[]) (results_noneA rfl _ _) rfl ?_
  exact ⟨rfl, ((H1.out.trans H2.out).trans H3.out)⟩
theorem asm_StoreE (w : World) (B b n : Nat) (s : Bs) (x0 : Nm) (x1 : Nm) (y : Int) (x2 : Int) (hy : y = x2) (h : BdAt w B b s n) (hn : n < 90000) (h0 : x0.length ≤ 1000) (h1 : x1.length ≤ 1000) :
    Calls Tryd.prog 27 #[.pointer (some ⟨b, 0, none⟩), nmV x0, nmV x1, .int .i64 y] w fun e w' => e = .returned (.tuple #[]) ∧ AsmPost w B b (s.store x0 x1 x2) (n + 3) w' := by
  subst hy
  exact asm_Store w B b n s x0 x1 y h hn h0 h1
end Go.Proofs.YtfpokjhalbbeeaaDoor
