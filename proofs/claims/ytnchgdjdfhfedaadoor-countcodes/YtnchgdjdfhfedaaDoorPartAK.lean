/- Of this claim's own texts these, one behind the other: Asm1, Asm2, Asm3. No statement of the seat is proved here; no condition but those that stand at the theorems. -/
import Derived.Test.YtnchgdjdfhfedaaDoorPartAJ
set_option linter.unusedSimpArgs false
set_option linter.unusedVariables false
namespace Go.Proofs.YtnchgdjdfhfedaaDoor
open Go.RowKit Go.Ord Go.Baro Go.Maps

set_option maxHeartbeats 1000000 in
theorem asm_register (w : World) (B b n : Nat) (s : Bs) (l : Nm) (h : BdAt w B b s n) (hn : n < 100000) (hl : l.length ≤ 1000) :
    Calls Tryd.prog 45 #[.pointer (some ⟨b, 0, none⟩), nmV l] w fun e w' => e = .returned (.int .i64 (s.rg l).2) ∧ AsmPost w B b (s.rg l).1 (n + 1) w' := by
  obtain ⟨cv, jv, rm, lm, h⟩ := h
  have c1 : w.cell? ⟨b, 1, none⟩ = some (.map (some rm)) := h.box.cell 1
  have hlt := h.lt
  have hB := h.hB
  have hlen := fun ty => h.regs.len (ty := ty)
  have hbn : s.regs.length ≤ n := h.bnd.2.2
  have HB := Lib.hid h
  cases ha : nmAsk s.regs l with
  | some v =>
    have HA := Lib.hid ha
    clear ha h hlen
    go_enter Tryd.func45, Tryd.ntmps45
    go_wp2_with (refine wp_lookN rfl (.tmp 11) (.tmp 12) rfl rm n s.regs l rfl HB.out.regs rfl hl (some v) HA.out ?_)
    go_ret
    have e : s.rg l = (s, v) := by unfold Bs.rg; rw [HA.out]
    rw [e]
    exact ⟨rfl, ⟨_, _, _, _, HB.out.mono (Nat.le_succ n)⟩, Kc.refl _ _, Below.refl _ _⟩
  | none =>
    have HA := Lib.hid ha
    clear ha h
    go_enter Tryd.func45, Tryd.ntmps45
    go_wp2_with first
      | (refine wp_lookN rfl (.tmp 11) (.tmp 12) rfl rm n s.regs l rfl HB.out.regs rfl hl none HA.out ?_)
      | (refine wp_updS rfl rfl (.tmp 26) (.tmp 27) (.tmp 28) rfl rm n s.regs l _ rfl HB.out.regs rfl rfl hl (by unfold inW; omega) (by omega) HA.out ?_; intro w1 HM hg1)
    go_ret
    have e : s.rg l = ({ s with regs := s.regs ++ [(l, (s.regs.length : Int))] }, (s.regs.length : Int)) := by unfold Bs.rg; rw [HA.out]
    rw [e]
    exact ⟨rfl, ⟨_, _, _, _, HB.out.named HM.out hg1⟩, kc_map HB.out.regs hg1, (Below.refl B w).grown hg1 hB (fun k hk => by injection hk with hk; subst hk; exact HB.out.low.2.1)⟩
set_option maxHeartbeats 1000000 in
theorem asm_append (w : World) (B b n : Nat) (s : Bs) (o : Ins) (h : BdAt w B b s n) (hn : n < 100000) :
    Calls Tryd.prog 46 #[.pointer (some ⟨b, 0, none⟩), .agg #[.int .i64 o.k, .int .i64 o.a, .int .i64 o.b, .int .i64 o.c, .int .i64 o.d]] w fun e w' => e = .returned (.tuple #[]) ∧ AsmPost w B b (s.put o) (n + 1) w' := by
  obtain ⟨cv, jv, rm, lm, h⟩ := h
  obtain ⟨k, x, y, z, u⟩ := o
  dsimp only
  have hlt := h.lt
  have hB := h.hB
  have hbn := h.bnd.1
  obtain ⟨A, c, rfl, hlc⟩ := own_form h.code
  have c0 : w.cell? ⟨b, 0, none⟩ = some (.slice A s.code.length c) := h.box.cell 0
  obtain ⟨m, hm⟩ : ∃ m, m = s.code.length := ⟨_, rfl⟩
  have HB := Lib.hid h
  have HC := Lib.hid h.code
  rw [← hm] at c0 hbn hlc HC
  have HM := Lib.hid hm
  clear hm h
  go_enter Tryd.func46, Tryd.ntmps46
  go_wp2
  refine region_first [0, 1, 2, 3, 4, 5] (.cons 6 (.cons 7 (seq [8, 9] (seq [10] .nil)))) (by kernel_rfl) (by kernel_rfl) ?_
  simp only [pick, List.map_cons, List.map_nil, List.getD_cons_zero, List.getD_cons_succ]
  go_wp2
  refine ord_call (by kernel_rfl) ?_
  simp only [pick, List.map_cons, List.map_nil, List.getD_cons_zero, List.getD_cons_succ]
  go_wp2
  refine ⟨fun k hk => Below.heap_alloc _ _ k hk, ?_⟩
  refine ord_fin (by kernel_rfl) ?_
  simp only [pick, List.map_cons, List.map_nil, List.getD_cons_zero, List.getD_cons_succ]
  go_wp2_with (at_builtin; go_must (refine app_litd eltAOp (w.alloc (Obj.cells #[.int .i64 k, .int .i64 x, .int .i64 y, .int .i64 z, .int .i64 u] 73)) rfl (.tmp 8) (.tmp 10) rfl B (.slice A m c) m (cellsO s.code) rfl (HC.out.alloc _) 1 [.int .i64 k, .int .i64 x, .int .i64 y, .int .i64 z, .int .i64 u] (w.heap.size + 1) (by simp) rfl rfl (by simp [Value.oneCell']) (by omega) (by omega) (by simp; omega) ?_); intro v' w1 hown1 hg1 hb1 hs1)
  have hbd := (HB.out.alloc (Obj.cells #[.int .i64 k, .int .i64 x, .int .i64 y, .int .i64 z, .int .i64 u] 73)).coded (o := ⟨k, x, y, z, u⟩) (w1 := w1) (v' := v') (by rw [HM.out] at hg1; exact hg1) (by rw [HM.out] at hown1; exact hown1)
  have hkc := kc_row (i := 0) (v' := v') (HB.out.alloc (Obj.cells #[.int .i64 k, .int .i64 x, .int .i64 y, .int .i64 z, .int .i64 u] 73)) (HC.out.alloc _) tAsm_op neOB hg1
  obtain ⟨A8, c8, rfl, hc8⟩ := own_form hown1
  have hlt1 : b < w1.heap.size := by have := hg1.size; simp at this; omega
  have hb8 := ((HB.out.box.alloc (Obj.cells #[.int .i64 k, .int .i64 x, .int .i64 y, .int .i64 z, .int .i64 u] 73)).alloc (Obj.cells #[.int .i64 k, .int .i64 x, .int .i64 y, .int .i64 z, .int .i64 u] 73)).grown hg1 (((HB.out.box.alloc (Obj.cells #[.int .i64 k, .int .i64 x, .int .i64 y, .int .i64 z, .int .i64 u] 73)).alloc (Obj.cells #[.int .i64 k, .int .i64 x, .int .i64 y, .int .i64 z, .int .i64 u] 73)).ne ((HC.out.alloc _).alloc _) neOB)
  have c1 : w1.cell? ⟨b, 0, none⟩ = some (.slice A s.code.length c) := hb8.cell 0
  have f1 := hb8.frozen 0
  have HBD := Lib.hid hbd
  have HKC := Lib.hid hkc
  clear hbd hkc hb1 hs1
  refine ord_more [8, 9] (seq [10] .nil) (by kernel_rfl) ?_
  simp only [pick, List.map_cons, List.map_nil, List.getD_cons_zero, List.getD_cons_succ]
  go_wp2
  refine ord_last [10] (by kernel_rfl) ?_
  simp only [pick, List.map_cons, List.map_nil, List.getD_cons_zero, List.getD_cons_succ]
  go_wp2
  refine bodyPost_end (v := .tuple #[]) (results_noneA rfl _ _) rfl ?_
  exact ⟨rfl, ⟨_, _, _, _, HBD.out⟩, (Kc.grown (World.grownBy_alloc w _ none) (by simp)).trans HKC.out.1, ((Below.refl B w).alloc hB _).trans HKC.out.2⟩
set_option maxHeartbeats 1000000 in
theorem asm_jump (w : World) (B b n : Nat) (s : Bs) (l : Nm) (h : BdAt w B b s n) (hn : n < 100000) (hl : l.length ≤ 1000) :
    Calls Tryd.prog 47 #[.pointer (some ⟨b, 0, none⟩), nmV l] w fun e w' => e = .returned (.tuple #[]) ∧ AsmPost w B b (s.jmp l) (n + 1) w' := by
  obtain ⟨cv, jv, rm, lm, h⟩ := h
  have hlt := h.lt
  have hB := h.hB
  have hbn := h.bnd.2.1
  have hbc := h.bnd.1
  obtain ⟨A, c, rfl, hlc⟩ := own_form h.jmps
  have c0 : w.cell? ⟨b, 3, none⟩ = some (.slice A s.jmps.length c) := h.box.cell 3
  obtain ⟨Ac, cc, rfl, hlcc⟩ := own_form h.code
  have d0 : w.cell? ⟨b, 0, none⟩ = some (.slice Ac s.code.length cc) := h.box.cell 0
  obtain ⟨m, hm⟩ : ∃ m, m = s.jmps.length := ⟨_, rfl⟩
  have HB := Lib.hid h
  have HC := Lib.hid h.jmps
  rw [← hm] at c0 hbn hlc HC
  obtain ⟨q, hq⟩ : ∃ q, q = s.code.length := ⟨_, rfl⟩
  rw [← hq] at d0 hbc
  have HQ := Lib.hid hq
  clear hq hlcc
  have HM := Lib.hid hm
  clear hm h
  unfold nmV
  go_enter Tryd.func47, Tryd.ntmps47
  refine region_first [0, 1, 2, 3, 4, 5, 6, 7, 8, 9, 10, 11] (.cons 12 (.cons 13 (seq [14, 15] (seq [16] .nil)))) (by kernel_rfl) (by kernel_rfl) ?_
  simp only [pick, List.map_cons, List.map_nil, List.getD_cons_zero, List.getD_cons_succ]
  go_wp2
  refine ord_call (by kernel_rfl) ?_
  simp only [pick, List.map_cons, List.map_nil, List.getD_cons_zero, List.getD_cons_succ]
  go_wp2
  refine ⟨fun k hk => Below.heap_alloc _ _ k hk, ?_⟩
  refine ord_fin (by kernel_rfl) ?_
  simp only [pick, List.map_cons, List.map_nil, List.getD_cons_zero, List.getD_cons_succ]
  go_wp2_with (at_builtin; go_must (refine app_litd eltAJ w rfl (.tmp 8) (.tmp 16) rfl B (.slice A m c) m (cellsJ s.jmps) rfl HC.out 1 [.int .i64 q, .string ⟨l.toArray⟩] w.heap.size rfl rfl rfl (by simp [Value.oneCell']) (by omega) (by omega) (by omega) ?_); intro v' w1 hown1 hg1 hb1 hs1)
  have hbd := HB.out.jumped (j := ((q : Int), l)) (w1 := w1) (v' := v') (by rw [HM.out] at hg1; exact hg1) (by rw [HM.out] at hown1; exact hown1)
  have hkc := kc_row (i := 3) (v' := v') HB.out HC.out tAsm_jp neJB hg1
  obtain ⟨A8, c8, rfl, hc8⟩ := own_form hown1
  have hlt1 : b < w1.heap.size := by have := hg1.size; simp at this; omega
  have hb8 := (HB.out.box.alloc (Obj.cells #[.int .i64 q, .string ⟨l.toArray⟩] 128)).grown hg1 ((HB.out.box.alloc (Obj.cells #[.int .i64 q, .string ⟨l.toArray⟩] 128)).ne (HC.out.alloc _) neJB)
  have c1 : w1.cell? ⟨b, 3, none⟩ = some (.slice A s.jmps.length c) := hb8.cell 3
  have f1 := hb8.frozen 3
  have HBD := Lib.hid hbd
  have HKC := Lib.hid hkc
  clear hbd hkc hb1 hs1
  refine ord_more [14, 15] (seq [16] .nil) (by kernel_rfl) ?_
  simp only [pick, List.map_cons, List.map_nil, List.getD_cons_zero, List.getD_cons_succ]
  go_wp2
  refine ord_last [16] (by kernel_rfl) ?_
  simp only [pick, List.map_cons, List.map_nil, List.getD_cons_zero, List.getD_cons_succ]
  go_wp2
  refine bodyPost_end (v := .tuple #[]) (results_noneA rfl _ _) rfl ?_
  have hbd := HBD.out
  rw [HQ.out] at hbd
  exact ⟨rfl, ⟨_, _, _, _, hbd⟩, HKC.out.1, HKC.out.2⟩
end Go.Proofs.YtnchgdjdfhfedaaDoor

set_option linter.unusedSimpArgs false
set_option linter.unusedVariables false
namespace Go.Proofs.YtnchgdjdfhfedaaDoor
open Go.RowKit Go.Ord Go.Baro Go.Maps

theorem AsmPost.trans {w w1 w2 : World} {B b n n' : Nat} {s s' : Bs} (h : AsmPost w B b s n w1) (k : AsmPost w1 B b s' n' w2) : AsmPost w B b s' n' w2 := ⟨k.1, h.2.1.trans k.2.1, h.2.2.trans k.2.2⟩
set_option maxHeartbeats 1000000 in
theorem asm_Add (w : World) (B b n : Nat) (s : Bs) (x0 : Nm) (x1 : Nm) (x2 : Nm) (h : BdAt w B b s n) (hn : n < 90000) (h0 : x0.length ≤ 1000) (h1 : x1.length ≤ 1000) (h2 : x2.length ≤ 1000) :
    Calls Tryd.prog 27 #[.pointer (some ⟨b, 0, none⟩), nmV x0, nmV x1, nmV x2] w fun e w' => e = .returned (.tuple #[]) ∧ AsmPost w B b (s.op3 3 x0 x1 x2) (n + 4) w' := by
  go_enter Tryd.func27, Tryd.ntmps27
  go_wp2_with fail
  refine (asm_register _ B b (n + 0) (s) x0 h (by omega) h0).mono ?_
  rintro e w1 ⟨rfl, H⟩
  have H1 := Lib.hid H
  clear H
  go_wp2_with fail
  refine (asm_register _ B b (n + 1) (((s).rg x0).1) x1 H1.out.1 (by omega) h1).mono ?_
  rintro e w2 ⟨rfl, H⟩
  have H2 := Lib.hid H
  clear H
  go_wp2_with fail
  refine (asm_register _ B b (n + 2) (((((s).rg x0).1).rg x1).1) x2 H2.out.1 (by omega) h2).mono ?_
  rintro e w3 ⟨rfl, H⟩
  have H3 := Lib.hid H
  clear H
  go_wp2_with fail
  refine (asm_append _ B b (n + 3) (((((((s).rg x0).1).rg x1).1).rg x2).1) ⟨3, ((s).rg x0).2, ((((s).rg x0).1).rg x1).2, ((((((s).rg x0).1).rg x1).1).rg x2).2, 0⟩ H3.out.1 (by omega)).mono ?_
  rintro e w4 ⟨rfl, H⟩
  have H4 := Lib.hid H
  clear H
  go_wp2
  refine bodyPost_end (v := .tuple #[]) (results_noneA rfl _ _) rfl ?_
  exact ⟨rfl, (((H1.out.trans H2.out).trans H3.out).trans H4.out)⟩
set_option maxHeartbeats 1000000 in
theorem asm_Unless (w : World) (B b n : Nat) (s : Bs) (x0 : Nm) (x1 : Nm) (h : BdAt w B b s n) (hn : n < 90000) (h0 : x0.length ≤ 1000) (h1 : x1.length ≤ 1000) :
    Calls Tryd.prog 29 #[.pointer (some ⟨b, 0, none⟩), nmV x0, nmV x1] w fun e w' => e = .returned (.tuple #[]) ∧ AsmPost w B b (s.unless x0 x1) (n + 3) w' := by
  go_enter Tryd.func29, Tryd.ntmps29
  go_wp2_with fail
  refine (asm_jump _ B b (n + 0) (s) x1 h (by omega) h1).mono ?_
  rintro e w1 ⟨rfl, H⟩
  have H1 := Lib.hid H
  clear H
  go_wp2_with fail
  refine (asm_register _ B b (n + 1) ((s).jmp x1) x0 H1.out.1 (by omega) h0).mono ?_
  rintro e w2 ⟨rfl, H⟩
  have H2 := Lib.hid H
  clear H
  go_wp2_with fail
  refine (asm_append _ B b (n + 2) ((((s).jmp x1).rg x0).1) ⟨12, (((s).jmp x1).rg x0).2, 0, 0, 0⟩ H2.out.1 (by omega)).mono ?_
  rintro e w3 ⟨rfl, H⟩
  have H3 := Lib.hid H
  clear H
  go_wp2
  refine bodyPost_end (v := .tuple #[]) (results_noneA rfl _ _) rfl ?_
  exact ⟨rfl, ((H1.out.trans H2.out).trans H3.out)⟩
set_option maxHeartbeats 1000000 in
theorem asm_Load (w : World) (B b n : Nat) (s : Bs) (x0 : Nm) (x1 : Nm) (x2 : Int) (h : BdAt w B b s n) (hn : n < 90000) (h0 : x0.length ≤ 1000) (h1 : x1.length ≤ 1000) :
    Calls Tryd.prog 26 #[.pointer (some ⟨b, 0, none⟩), nmV x0, nmV x1, .int .i64 x2] w fun e w' => e = .returned (.tuple #[]) ∧ AsmPost w B b (s.load x0 x1 x2) (n + 3) w' := by
  go_enter Tryd.func26, Tryd.ntmps26
  go_wp2_with fail
  refine (asm_register _ B b (n + 0) (s) x0 h (by omega) h0).mono ?_
  rintro e w1 ⟨rfl, H⟩
  have H1 := Lib.hid H
  clear H
  go_wp2_with fail
  refine (asm_register _ B b (n + 1) (((s).rg x0).1) x1 H1.out.1 (by omega) h1).mono ?_
  rintro e w2 ⟨rfl, H⟩
  have H2 := Lib.hid H
  clear H
  go_wp2_with fail
  refine (asm_append _ B b (n + 2) (((((s).rg x0).1).rg x1).1) ⟨13, ((s).rg x0).2, ((((s).rg x0).1).rg x1).2, x2, 0⟩ H2.out.1 (by omega)).mono ?_
  rintro e w3 ⟨rfl, H⟩
  have H3 := Lib.hid H
  clear H
  go_wp2
  refine bodyPost_end (v := .tuple #[]) (results_noneA rfl _ _) rfl ?_
  exact ⟨rfl, ((H1.out.trans H2.out).trans H3.out)⟩
theorem asm_LoadE (w : World) (B b n : Nat) (s : Bs) (x0 : Nm) (x1 : Nm) (y : Int) (x2 : Int) (hy : y = x2) (h : BdAt w B b s n) (hn : n < 90000) (h0 : x0.length ≤ 1000) (h1 : x1.length ≤ 1000) :
    Calls Tryd.prog 26 #[.pointer (some ⟨b, 0, none⟩), nmV x0, nmV x1, .int .i64 y] w fun e w' => e = .returned (.tuple #[]) ∧ AsmPost w B b (s.load x0 x1 x2) (n + 3) w' := by
  subst hy
  exact asm_Load w B b n s x0 x1 y h hn h0 h1
set_option maxHeartbeats 1000000 in
theorem asm_Cas (w : World) (B b n : Nat) (s : Bs) (x0 : Nm) (x1 : Nm) (x2 : Int) (x3 : Nm) (h : BdAt w B b s n) (hn : n < 90000) (h0 : x0.length ≤ 1000) (h1 : x1.length ≤ 1000) (h3 : x3.length ≤ 1000) :
    Calls Tryd.prog 28 #[.pointer (some ⟨b, 0, none⟩), nmV x0, nmV x1, .int .i64 x2, nmV x3] w fun e w' => e = .returned (.tuple #[]) ∧ AsmPost w B b (s.cas x0 x1 x2 x3) (n + 4) w' := by
  go_enter Tryd.func28, Tryd.ntmps28
  go_wp2_with fail
  refine (asm_register _ B b (n + 0) (s) x0 h (by omega) h0).mono ?_
  rintro e w1 ⟨rfl, H⟩
  have H1 := Lib.hid H
  clear H
  go_wp2_with fail
  refine (asm_register _ B b (n + 1) (((s).rg x0).1) x1 H1.out.1 (by omega) h1).mono ?_
  rintro e w2 ⟨rfl, H⟩
  have H2 := Lib.hid H
  clear H
  go_wp2_with fail
  refine (asm_register _ B b (n + 2) (((((s).rg x0).1).rg x1).1) x3 H2.out.1 (by omega) h3).mono ?_
  rintro e w3 ⟨rfl, H⟩
  have H3 := Lib.hid H
  clear H
  go_wp2_with fail
  refine (asm_append _ B b (n + 3) (((((((s).rg x0).1).rg x1).1).rg x3).1) ⟨15, ((s).rg x0).2, ((((s).rg x0).1).rg x1).2, x2, ((((((s).rg x0).1).rg x1).1).rg x3).2⟩ H3.out.1 (by omega)).mono ?_
  rintro e w4 ⟨rfl, H⟩
  have H4 := Lib.hid H
  clear H
  go_wp2
  refine bodyPost_end (v := .tuple #[]) (results_noneA rfl _ _) rfl ?_
  exact ⟨rfl, (((H1.out.trans H2.out).trans H3.out).trans H4.out)⟩
theorem asm_CasE (w : World) (B b n : Nat) (s : Bs) (x0 : Nm) (x1 : Nm) (y : Int) (x2 : Int) (x3 : Nm) (hy : y = x2) (h : BdAt w B b s n) (hn : n < 90000) (h0 : x0.length ≤ 1000) (h1 : x1.length ≤ 1000) (h3 : x3.length ≤ 1000) :
    Calls Tryd.prog 28 #[.pointer (some ⟨b, 0, none⟩), nmV x0, nmV x1, .int .i64 y, nmV x3] w fun e w' => e = .returned (.tuple #[]) ∧ AsmPost w B b (s.cas x0 x1 x2 x3) (n + 4) w' := by
  subst hy
  exact asm_Cas w B b n s x0 x1 y x3 h hn h0 h1 h3
end Go.Proofs.YtnchgdjdfhfedaaDoor

set_option linter.unusedSimpArgs false
set_option linter.unusedVariables false
namespace Go.Proofs.YtnchgdjdfhfedaaDoor
open Go.RowKit Go.Ord Go.Baro Go.Maps

/-- A slice of names. -/
def QN (w : World) (A : Option Addr) (n : Nat) (xs : List Nm) : Prop := QT w 9 1 A n (xs.map nmV)
theorem QN.kc {w w' : World} {A : Option Addr} {n : Nat} {xs : List Nm} (h : QN w A n xs) (hk : Kc tAsm w w') : QN w' A n xs := QT.kc h hk tAsm_str
theorem QN.len {w : World} {A : Option Addr} {n : Nat} {xs : List Nm} (h : QN w A n xs) : xs.length = n := by have := h.1; simpa using this
theorem QN.val {w : World} {A : Option Addr} {n : Nat} {xs : List Nm} (h : QN w A n xs) {i : Nat} (hi : i < n) : ∃ b o l, A = some ⟨b, o, none⟩ ∧ b < w.heap.size ∧ w.cell? ⟨b, o + i, none⟩ = some (nmV l) ∧ Hid (xs[i]? = some l) := by
  obtain ⟨b, o, cur, fr, hA, hb, hc⟩ := h.2 (by omega)
  have hl : i < xs.length := by rw [h.len]; exact hi
  refine ⟨b, o, xs[i], hA, lt_of_heap hb, ?_, List.getElem?_eq_getElem hl⟩
  rw [hc i (by omega)]
  simp [hl]
set_option maxHeartbeats 1000000 in
theorem asm_Label (w : World) (B b n : Nat) (s : Bs) (l : Nm) (h : BdAt w B b s n) (hn : n < 100000) (hl : l.length ≤ 1000) (ha : nmAsk s.labs l = none) :
    Calls Tryd.prog 25 #[.pointer (some ⟨b, 0, none⟩), nmV l] w fun e w' => e = .returned (.tuple #[]) ∧ AsmPost w B b (s.lab l) (n + 1) w' := by
  obtain ⟨cv, jv, rm, lm, h⟩ := h
  have hlt := h.lt
  have hB := h.hB
  have hbn : s.code.length ≤ n := h.bnd.1
  obtain ⟨A, c, rfl, hlc⟩ := own_form h.code
  have c0 : w.cell? ⟨b, 0, none⟩ = some (.slice A s.code.length c) := h.box.cell 0
  have c2 : w.cell? ⟨b, 2, none⟩ = some (.map (some lm)) := h.box.cell 2
  obtain ⟨m, hm⟩ : ∃ m, m = s.code.length := ⟨_, rfl⟩
  rw [← hm] at c0 hbn hlc
  have HM := Lib.hid hm
  have HB := Lib.hid h
  have HA := Lib.hid ha
  clear ha h hm
  go_enter Tryd.func25, Tryd.ntmps25
  go_wp2_with (refine wp_lookN rfl (.tmp 10) (.tmp 11) rfl lm n s.labs l rfl HB.out.labs rfl hl none HA.out ?_)
  refine region_two [0, 1, 2, 3, 4, 5, 6, 7, 8, 9] [10] (by kernel_rfl) (by kernel_rfl) ?_
  simp only [pick, List.map_cons, List.map_nil, List.getD_cons_zero, List.getD_cons_succ]
  go_wp2_with (refine wp_updS rfl rfl (.tmp 22) (.tmp 23) (.tmp 28) rfl lm n s.labs l _ rfl (by exact HB.out.drew.labs) rfl rfl hl (by unfold inW; omega) (by omega) HA.out ?_; intro w1 HMS hg1)
  refine bodyPost_end (v := .tuple #[]) (results_noneA rfl _ _) rfl ?_
  rw [HM.out] at HMS
  have hg2 : w.grownBy w1 (some lm) := ⟨hg1.os, hg1.tape, hg1.output, hg1.size, hg1.block⟩
  exact ⟨rfl, ⟨_, _, _, _, HB.out.labelled HMS.out hg2⟩, kc_mapL HB.out.labs hg2, (Below.refl B w).grown hg2 hB (fun k hk => by injection hk with hk; subst hk; exact HB.out.low.2.2.1)⟩
set_option maxHeartbeats 1000000 in
theorem asm_Emit (w : World) (B b n : Nat) (s : Bs) (A : Option Addr) (m c : Nat) (xs : List Nm) (h : BdAt w B b s n) (hn : n < 50000) (hx : QN w A m xs) (hm : m ≤ 1000) (hl : ∀ x ∈ xs, x.length ≤ 1000) :
    Calls Tryd.prog 30 #[.pointer (some ⟨b, 0, none⟩), .slice A m c] w fun e w' => e = .returned (.tuple #[]) ∧ AsmPost w B b (s.emit xs) (n + 2 * m) w' := by
  have HX := Lib.hid hx
  have HH := Lib.hid h
  have HL := Lib.hid hl
  clear hx h hl
  go_enter Tryd.func30, Tryd.ntmps30
  go_wp2
  go_loopw [8] (fun i wr => ∃ j : Nat, j ≤ m ∧ i = .int .i64 j ∧ Hid (AsmPost w B b (s.emit (xs.take j)) (n + 2 * j) wr)) (fun i _ => m - (intOf i).toNat)
  case atStart => exact ⟨0, Nat.zero_le _, rfl, HH.out, Kc.refl _ _, Below.refl _ _⟩
  case round =>
    obtain ⟨j, hj, rfl, HP⟩ := hrel
    by_cases h1 : j < m
    · obtain ⟨g, o, l, rfl, hgB, hcell, HXL⟩ := (HX.out.kc HP.out.2.1).val h1
      go_wp2_with fail
      refine (asm_register _ B b (n + 2 * j) (s.emit (xs.take j)) l HP.out.1 (by omega) (HL.out l (List.mem_of_getElem? HXL.out))).mono ?_
      rintro e w1 ⟨rfl, H⟩
      have H1 := Lib.hid H
      clear H
      go_wp2_with fail
      refine (asm_append _ B b (n + 2 * j + 1) ((s.emit (xs.take j)).rg l).1 ⟨16, ((s.emit (xs.take j)).rg l).2, 0, 0, 0⟩ H1.out.1 (by omega)).mono ?_
      rintro e w2 ⟨rfl, H⟩
      have H2 := Lib.hid H
      clear H
      go_wp2
      go_roundw
      case rel =>
        refine ⟨j + 1, by omega, by go_num, ?_⟩
        have := (HP.out.trans H1.out).trans H2.out
        rw [at_take HXL.out]
        unfold Bs.emit at *
        rw [List.foldl_append, show n + 2 * (j + 1) = n + 2 * j + 1 + 1 by omega]
        exact this
      case measure => simp [intOf]; omega
    · obtain rfl : j = m := by omega
      go_wp2
      refine bodyPost_end (v := .tuple #[]) (results_noneA rfl _ _) rfl ?_
      have := HP.out
      rw [List.take_of_length_le (by rw [HX.out.len]; exact Nat.le_refl _)] at this
      exact ⟨rfl, this⟩
/-- A builder that has just been made. -/
theorem bd_made (w : World) (v : Value) (hv : v = .slice none 0 0) : BdAt ((((w.alloc (.map #[] 0)).alloc (.map #[] 0)).alloc (.cells #[.slice none 0 0, .map (some w.heap.size), .map (some (w.heap.size + 1)), .slice none 0 0, .bool false] 103))) w.heap.size (w.heap.size + 2) ⟨[], [], [], [], false⟩ 0 := by
  refine ⟨.slice none 0 0, .slice none 0 0, w.heap.size, w.heap.size + 1, ?_, World.ownsRow_nil _ _ _ _, World.ownsRow_nil _ _ _ _, ?_, ?_, ⟨by omega, by omega, by omega, by omega⟩, ⟨Nat.le_refl _, Nat.le_refl _, Nat.le_refl _⟩⟩
  · have := Box.newAt ((w.alloc (.map #[] 0)).alloc (.map #[] 0)) 103 [.slice none 0 0, .map (some w.heap.size), .map (some (w.heap.size + 1)), .slice none 0 0, .bool false] (w.heap.size + 2) (by simp)
    exact this
  · exact ((MS.made w).kept (World.grownBy_alloc _ _ none) (by simp)).kept (World.grownBy_alloc _ _ none) (by simp)
  · have := MS.made (w.alloc (.map #[] 0))
    rw [show (w.alloc (.map #[] 0)).heap.size = w.heap.size + 1 by simp] at this
    exact this.kept (World.grownBy_alloc _ _ none) (by simp)
set_option maxHeartbeats 1000000 in
theorem asm_New (w : World) (A : Option Addr) (m c : Nat) (xs : List Nm) (hx : QN w A m xs) (hm : m ≤ 1000) (hl : ∀ x ∈ xs, x.length ≤ 1000) (hd : ∀ (j : Nat) l, xs[j]? = some l → nmAsk (Bs.new (xs.take j)).regs l = none) :
    Calls Tryd.prog 24 #[.slice A m c] w fun e w' => ∃ b, e = .returned (.pointer (some ⟨b, 0, none⟩)) ∧ AsmPost w w.heap.size b (Bs.new xs) m w' := by
  have HX := Lib.hid hx
  have HL := Lib.hid hl
  have HD := Lib.hid hd
  have HB0 := Lib.hid (bd_made w (.slice none 0 0) rfl)
  have h0 := ((((Below.refl w.heap.size w).alloc (Nat.le_refl _) (.map #[] 0)).alloc (by simp) (.map #[] 0)).alloc (by simp; omega) (.cells #[.slice none 0 0, .map (some w.heap.size), .map (some (w.heap.size + 1)), .slice none 0 0, .bool false] 103))
  clear hx hl hd
  have hmm := @run_makeMap Tryd.prog
  go_enter Tryd.func24, Tryd.ntmps24
  go_wp2
  go_loopw [14] (fun i wr => ∃ j : Nat, j ≤ m ∧ i = .int .i64 j ∧ Hid (AsmPost w w.heap.size (w.heap.size + 2) (Bs.new (xs.take j)) j wr)) (fun i _ => m - (intOf i).toNat)
  case atStart => exact ⟨0, Nat.zero_le _, rfl, HB0.out, Kc.below h0, h0⟩
  case round =>
    obtain ⟨j, hj, rfl, HP⟩ := hrel
    by_cases h1 : j < m
    · obtain ⟨g, o, l, rfl, hgB, hcell, HXL⟩ := (HX.out.kc HP.out.2.1).val h1
      obtain ⟨cv, jv, rm, lm, hb⟩ := HP.out.1
      have c1 : wr.cell? ⟨w.heap.size + 2, 1, none⟩ = some (.map (some rm)) := hb.box.cell 1
      have hlt := hb.lt
      have HBD := Lib.hid hb
      have HDL := Lib.hid (HD.out j l HXL.out)
      clear hb
      go_wp2_with (refine wp_lookN rfl (.tmp 22) (.tmp 23) rfl rm j (Bs.new (xs.take j)).regs l rfl HBD.out.regs rfl (HL.out l (List.mem_of_getElem? HXL.out)) none HDL.out ?_)
      refine (asm_register _ _ _ j (Bs.new (xs.take j)) l HP.out.1 (by omega) (HL.out l (List.mem_of_getElem? HXL.out))).mono ?_
      rintro e w1 ⟨rfl, H⟩
      have H1 := Lib.hid H
      clear H
      go_wp2
      go_roundw
      case rel =>
        refine ⟨j + 1, by omega, by go_num, ?_⟩
        have := HP.out.trans H1.out
        rw [at_take HXL.out]
        unfold Bs.new at *
        rw [List.foldl_append]
        exact this
      case measure => simp [intOf]; omega
    · obtain rfl : j = m := by omega
      go_wp2
      go_ret
      have := HP.out
      rw [List.take_of_length_le (by rw [HX.out.len]; exact Nat.le_refl _)] at this
      exact ⟨_, rfl, this⟩
end Go.Proofs.YtnchgdjdfhfedaaDoor
