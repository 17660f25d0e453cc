/- The builder of codes: registers, instructions, jumps. No statement of the seat is proved here; no condition. -/
import Derived.Test.YtfpokjhalbbeeaaDoorAsmMem
set_option linter.unusedSimpArgs false
set_option linter.unusedVariables false
namespace Go.Proofs.YtfpokjhalbbeeaaDoor
open Go.RowKit Go.Ord Go.Baro Go.Maps

set_option maxHeartbeats 1000000 in
theorem asm_register (w : World) (B b n : Nat) (s : Bs) (l : Nm) (h : BdAt w B b s n) (hn : n < 100000) (hl : l.length ≤ 1000) :
    Calls Tryd.prog 39 #[.pointer (some ⟨b, 0, none⟩), nmV l] w fun e w' => e = .returned (.int .i64 (s.rg l).2) ∧ AsmPost w B b (s.rg l).1 (n + 1) w' := by
  obtain ⟨cv, jv, rm, lm, h⟩ := h
  have c1 : w.cell? ⟨b, 1, none⟩ = some (.map (some rm)) := h.box.cell 1
  have hlt := h.lt
  have hB := h.hB
  have hlen := fun ty => h.regs.len (ty := ty)
  have hbn : s.regs.length ≤ n := h.bnd.2.2
  have HB := Lib.hid h
  cases ha : nmAsk s.regs l with
  | some v =>
    have HA := Lib.hid ha
    clear ha h hlen
    go_enter Tryd.func39, Tryd.ntmps39
    go_wp2_with (refine wp_lookN rfl (.tmp 11) (.tmp 12) rfl rm n s.regs l rfl HB.out.regs rfl hl (some v) HA.out ?_)
    go_ret
    have e : s.rg l = (s, v) := by unfold Bs.rg; rw [HA.out]
    rw [e]
    exact ⟨rfl, ⟨_, _, _, _, HB.out.mono (Nat.le_succ n)⟩, Kc.refl _ _, Below.refl _ _⟩
  | none =>
    have HA := Lib.hid ha
    clear ha h
    go_enter Tryd.func39, Tryd.ntmps39
    go_wp2_with first
      | (refine wp_lookN rfl (.tmp 11) (.tmp 12) rfl rm n s.regs l rfl HB.out.regs rfl hl none HA.out ?_)
      | (refine wp_updS rfl rfl (.tmp 26) (.tmp 27) (.tmp 28) rfl rm n s.regs l _ rfl HB.out.regs rfl rfl hl (by unfold inW; omega) (by omega) HA.out ?_; intro w1 HM hg1)
    go_ret
    have e : s.rg l = ({ s with regs := s.regs ++ [(l, (s.regs.length : Int))] }, (s.regs.length : Int)) := by unfold Bs.rg; rw [HA.out]
    rw [e]
    exact ⟨rfl, ⟨_, _, _, _, HB.out.named HM.out hg1⟩, kc_map HB.out.regs hg1, (Below.refl B w).grown hg1 hB (fun k hk => by injection hk with hk; subst hk; exact HB.out.low.2.1)⟩
set_option maxHeartbeats 1000000 in
theorem asm_append (w : World) (B b n : Nat) (s : Bs) (o : Ins) (h : BdAt w B b s n) (hn : n < 100000) :
    Calls Tryd.prog 41 #[.pointer (some ⟨b, 0, none⟩), .agg #[.int .i64 o.k, .int .i64 o.a, .int .i64 o.b, .int .i64 o.c, .int .i64 o.d]] w fun e w' => e = .returned (.tuple #[]) ∧ AsmPost w B b (s.put o) (n + 1) w' := by
  obtain ⟨cv, jv, rm, lm, h⟩ := h
  obtain ⟨k, x, y, z, u⟩ := o
  dsimp only
  have hlt := h.lt
  have hB := h.hB
  have hbn := h.bnd.1
  obtain ⟨A, c, rfl, hlc⟩ := own_form h.code
  have c0 : w.cell? ⟨b, 0, none⟩ = some (.slice A s.code.length c) := h.box.cell 0
  obtain ⟨m, hm⟩ : ∃ m, m = s.code.length := ⟨_, rfl⟩
  have HB := Lib.hid h
  have HC := Lib.hid h.code
  rw [← hm] at c0 hbn hlc HC
  have HM := Lib.hid hm
  clear hm h
  go_enter Tryd.func41, Tryd.ntmps41
  go_wp2
  refine region_first [0, 1, 2, 3, 4, 5] (.cons 6 (.cons 7 (seq [8, 9] (seq [10] .nil)))) (by kernel_rfl) (by kernel_rfl) ?_
  simp only [pick, List.map_cons, List.map_nil, List.getD_cons_zero, List.getD_cons_succ]
  go_wp2
  refine ord_call (by kernel_rfl) ?_
  simp only [pick, List.map_cons, List.map_nil, List.getD_cons_zero, List.getD_cons_succ]
  go_wp2
  refine ⟨fun k hk => Below.heap_alloc _ _ k hk, ?_⟩
  refine ord_fin (by kernel_rfl) ?_
  simp only [pick, List.map_cons, List.map_nil, List.getD_cons_zero, List.getD_cons_succ]
  go_wp2_with (at_builtin; go_must (refine app_litd eltAOp (w.alloc (Obj.cells #[.int .i64 k, .int .i64 x, .int .i64 y, .int .i64 z, .int .i64 u] 64)) rfl (.tmp 8) (.tmp 10) rfl B (.slice A m c) m (cellsO s.code) rfl (HC.out.alloc _) 1 [.int .i64 k, .int .i64 x, .int .i64 y, .int .i64 z, .int .i64 u] (w.heap.size + 1) (by simp) rfl rfl (by simp [Value.oneCell']) (by omega) (by omega) (by simp; omega) ?_); intro v' w1 hown1 hg1 hb1 hs1)
  have hbd := (HB.out.alloc (Obj.cells #[.int .i64 k, .int .i64 x, .int .i64 y, .int .i64 z, .int .i64 u] 64)).coded (o := ⟨k, x, y, z, u⟩) (w1 := w1) (v' := v') (by rw [HM.out] at hg1; exact hg1) (by rw [HM.out] at hown1; exact hown1)
  have hkc := kc_row (i := 0) (v' := v') (HB.out.alloc (Obj.cells #[.int .i64 k, .int .i64 x, .int .i64 y, .int .i64 z, .int .i64 u] 64)) (HC.out.alloc _) tAsm_op neOB hg1
  obtain ⟨A8, c8, rfl, hc8⟩ := own_form hown1
  have hlt1 : b < w1.heap.size := by have := hg1.size; simp at this; omega
  have hb8 := ((HB.out.box.alloc (Obj.cells #[.int .i64 k, .int .i64 x, .int .i64 y, .int .i64 z, .int .i64 u] 64)).alloc (Obj.cells #[.int .i64 k, .int .i64 x, .int .i64 y, .int .i64 z, .int .i64 u] 64)).grown hg1 (((HB.out.box.alloc (Obj.cells #[.int .i64 k, .int .i64 x, .int .i64 y, .int .i64 z, .int .i64 u] 64)).alloc (Obj.cells #[.int .i64 k, .int .i64 x, .int .i64 y, .int .i64 z, .int .i64 u] 64)).ne ((HC.out.alloc _).alloc _) neOB)
  have c1 : w1.cell? ⟨b, 0, none⟩ = some (.slice A s.code.length c) := hb8.cell 0
  have f1 := hb8.frozen 0
  have HBD := Lib.hid hbd
  have HKC := Lib.hid hkc
  clear hbd hkc hb1 hs1
  refine ord_more [8, 9] (seq [10] .nil) (by kernel_rfl) ?_
  simp only [pick, List.map_cons, List.map_nil, List.getD_cons_zero, List.getD_cons_succ]
  go_wp2
  refine ord_last [10] (by kernel_rfl) ?_
  simp only [pick, List.map_cons, List.map_nil, List.getD_cons_zero, List.getD_cons_succ]
  go_wp2
  refine bodyPost_end (v := .tuple #[]) (results_noneA rfl _ _) rfl ?_
  exact ⟨rfl, ⟨_, _, _, _, HBD.out⟩, (Kc.grown (World.grownBy_alloc w _ none) (by simp)).trans HKC.out.1, ((Below.refl B w).alloc hB _).trans HKC.out.2⟩
set_option maxHeartbeats 1000000 in
theorem asm_jump (w : World) (B b n : Nat) (s : Bs) (l : Nm) (h : BdAt w B b s n) (hn : n < 100000) (hl : l.length ≤ 1000) :
    Calls Tryd.prog 44 #[.pointer (some ⟨b, 0, none⟩), nmV l] w fun e w' => e = .returned (.tuple #[]) ∧ AsmPost w B b (s.jmp l) (n + 1) w' := by
  obtain ⟨cv, jv, rm, lm, h⟩ := h
  have hlt := h.lt
  have hB := h.hB
  have hbn := h.bnd.2.1
  have hbc := h.bnd.1
  obtain ⟨A, c, rfl, hlc⟩ := own_form h.jmps
  have c0 : w.cell? ⟨b, 3, none⟩ = some (.slice A s.jmps.length c) := h.box.cell 3
  obtain ⟨Ac, cc, rfl, hlcc⟩ := own_form h.code
  have d0 : w.cell? ⟨b, 0, none⟩ = some (.slice Ac s.code.length cc) := h.box.cell 0
  obtain ⟨m, hm⟩ : ∃ m, m = s.jmps.length := ⟨_, rfl⟩
  have HB := Lib.hid h
  have HC := Lib.hid h.jmps
  rw [← hm] at c0 hbn hlc HC
  obtain ⟨q, hq⟩ : ∃ q, q = s.code.length := ⟨_, rfl⟩
  rw [← hq] at d0 hbc
  have HQ := Lib.hid hq
  clear hq hlcc
  have HM := Lib.hid hm
  clear hm h
  unfold nmV
  go_enter Tryd.func44, Tryd.ntmps44
  refine region_first [0, 1, 2, 3, 4, 5, 6, 7, 8, 9, 10, 11] (.cons 12 (.cons 13 (seq [14, 15] (seq [16] .nil)))) (by kernel_rfl) (by kernel_rfl) ?_
  simp only [pick, List.map_cons, List.map_nil, List.getD_cons_zero, List.getD_cons_succ]
  go_wp2
  refine ord_call (by kernel_rfl) ?_
  simp only [pick, List.map_cons, List.map_nil, List.getD_cons_zero, List.getD_cons_succ]
  go_wp2
  refine ⟨fun k hk => Below.heap_alloc _ _ k hk, ?_⟩
  refine ord_fin (by kernel_rfl) ?_
  simp only [pick, List.map_cons, List.map_nil, List.getD_cons_zero, List.getD_cons_succ]
  go_wp2_with (at_builtin; go_must (refine app_litd eltAJ w rfl (.tmp 8) (.tmp 16) rfl B (.slice A m c) m (cellsJ s.jmps) rfl HC.out 1 [.int .i64 q, .string ⟨l.toArray⟩] w.heap.size rfl rfl rfl (by simp [Value.oneCell']) (by omega) (by omega) (by omega) ?_); intro v' w1 hown1 hg1 hb1 hs1)
  have hbd := HB.out.jumped (j := ((q : Int), l)) (w1 := w1) (v' := v') (by rw [HM.out] at hg1; exact hg1) (by rw [HM.out] at hown1; exact hown1)
  have hkc := kc_row (i := 3) (v' := v') HB.out HC.out tAsm_jp neJB hg1
  obtain ⟨A8, c8, rfl, hc8⟩ := own_form hown1
  have hlt1 : b < w1.heap.size := by have := hg1.size; simp at this; omega
  have hb8 := (HB.out.box.alloc (Obj.cells #[.int .i64 q, .string ⟨l.toArray⟩] 85)).grown hg1 ((HB.out.box.alloc (Obj.cells #[.int .i64 q, .string ⟨l.toArray⟩] 85)).ne (HC.out.alloc _) neJB)
  have c1 : w1.cell? ⟨b, 3, none⟩ = some (.slice A s.jmps.length c) := hb8.cell 3
  have f1 := hb8.frozen 3
  have HBD := Lib.hid hbd
  have HKC := Lib.hid hkc
  clear hbd hkc hb1 hs1
  refine ord_more [14, 15] (seq [16] .nil) (by kernel_rfl) ?_
  simp only [pick, List.map_cons, List.map_nil, List.getD_cons_zero, List.getD_cons_succ]
  go_wp2
  refine ord_last [16] (by kernel_rfl) ?_
  simp only [pick, List.map_cons, List.map_nil, List.getD_cons_zero, List.getD_cons_succ]
  go_wp2
  refine bodyPost_end (v := .tuple #[]) (results_noneA rfl _ _) rfl ?_
  have hbd := HBD.out
  rw [HQ.out] at hbd
  exact ⟨rfl, ⟨_, _, _, _, hbd⟩, HKC.out.1, HKC.out.2⟩
end Go.Proofs.YtfpokjhalbbeeaaDoor
