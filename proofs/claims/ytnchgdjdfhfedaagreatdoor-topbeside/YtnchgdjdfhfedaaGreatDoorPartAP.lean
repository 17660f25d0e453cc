/- Of this claim's own texts these, one behind the other: Asm3, VmPure2, Vm1, Vm2, LibF, Vm3O, Vm4O, VmRunPure. No statement of the seat is proved here; no condition but those that stand at the theorems. -/
import Derived.Test.YtnchgdjdfhfedaaGreatDoorPartAO
import Derived.Test.YtnchgdjdfhfedaaGreatDoorPartAC
import Derived.Test.YtnchgdjdfhfedaaGreatDoorPartAE
import Derived.Test.YtnchgdjdfhfedaaGreatDoorPartAD
import Derived.Test.YtnchgdjdfhfedaaGreatDoorPartAF
set_option linter.unusedSimpArgs false
set_option linter.unusedVariables false
namespace Go.Proofs.YtnchgdjdfhfedaaGreatDoor
open Go.RowKit Go.Ord Go.Baro Go.Maps

/-- A slice of names. -/
def QN (w : World) (A : Option Addr) (n : Nat) (xs : List Nm) : Prop := QT w 9 1 A n (xs.map nmV)
theorem QN.kc {w w' : World} {A : Option Addr} {n : Nat} {xs : List Nm} (h : QN w A n xs) (hk : Kc tAsm w w') : QN w' A n xs := QT.kc h hk tAsm_str
theorem QN.len {w : World} {A : Option Addr} {n : Nat} {xs : List Nm} (h : QN w A n xs) : xs.length = n := by have := h.1; simpa using this
theorem QN.val {w : World} {A : Option Addr} {n : Nat} {xs : List Nm} (h : QN w A n xs) {i : Nat} (hi : i < n) : ∃ b o l, A = some ⟨b, o, none⟩ ∧ b < w.heap.size ∧ w.cell? ⟨b, o + i, none⟩ = some (nmV l) ∧ Hid (xs[i]? = some l) := by
  obtain ⟨b, o, cur, fr, hA, hb, hc⟩ := h.2 (by omega)
  have hl : i < xs.length := by rw [h.len]; exact hi
  refine ⟨b, o, xs[i], hA, lt_of_heap hb, ?_, List.getElem?_eq_getElem hl⟩
  rw [hc i (by omega)]
  simp [hl]
set_option maxHeartbeats 1000000 in
theorem asm_Label (w : World) (B b n : Nat) (s : Bs) (l : Nm) (h : BdAt w B b s n) (hn : n < 100000) (hl : l.length ≤ 1000) (ha : nmAsk s.labs l = none) :
    Calls Tryz.prog 28 #[.pointer (some ⟨b, 0, none⟩), nmV l] w fun e w' => e = .returned (.tuple #[]) ∧ AsmPost w B b (s.lab l) (n + 1) w' := by
  obtain ⟨cv, jv, rm, lm, h⟩ := h
  have hlt := h.lt
  have hB := h.hB
  have hbn : s.code.length ≤ n := h.bnd.1
  obtain ⟨A, c, rfl, hlc⟩ := own_form h.code
  have c0 : w.cell? ⟨b, 0, none⟩ = some (.slice A s.code.length c) := h.box.cell 0
  have c2 : w.cell? ⟨b, 2, none⟩ = some (.map (some lm)) := h.box.cell 2
  obtain ⟨m, hm⟩ : ∃ m, m = s.code.length := ⟨_, rfl⟩
  rw [← hm] at c0 hbn hlc
  have HM := Lib.hid hm
  have HB := Lib.hid h
  have HA := Lib.hid ha
  clear ha h hm
  go_enter Tryz.func28, Tryz.ntmps28
  go_wp2_with (refine wp_lookN rfl (.tmp 10) (.tmp 11) rfl lm n s.labs l rfl HB.out.labs rfl hl none HA.out ?_)
  refine region_two [0, 1, 2, 3, 4, 5, 6, 7, 8, 9] [10] (by kernel_rfl) (by kernel_rfl) ?_
  simp only [pick, List.map_cons, List.map_nil, List.getD_cons_zero, List.getD_cons_succ]
  go_wp2_with (refine wp_updS rfl rfl (.tmp 22) (.tmp 23) (.tmp 28) rfl lm n s.labs l _ rfl (by exact HB.out.drew.labs) rfl rfl hl (by unfold inW; omega) (by omega) HA.out ?_; intro w1 HMS hg1)
  refine bodyPost_end (v := .tuple #[]) (results_noneA rfl _ _) rfl ?_
  rw [HM.out] at HMS
  have hg2 : w.grownBy w1 (some lm) := ⟨hg1.os, hg1.tape, hg1.output, hg1.size, hg1.block⟩
  exact ⟨rfl, ⟨_, _, _, _, HB.out.labelled HMS.out hg2⟩, kc_mapL HB.out.labs hg2, (Below.refl B w).grown hg2 hB (fun k hk => by injection hk with hk; subst hk; exact HB.out.low.2.2.1)⟩
set_option maxHeartbeats 1000000 in
theorem asm_Emit (w : World) (B b n : Nat) (s : Bs) (A : Option Addr) (m c : Nat) (xs : List Nm) (h : BdAt w B b s n) (hn : n < 50000) (hx : QN w A m xs) (hm : m ≤ 1000) (hl : ∀ x ∈ xs, x.length ≤ 1000) :
    Calls Tryz.prog 27 #[.pointer (some ⟨b, 0, none⟩), .slice A m c] w fun e w' => e = .returned (.tuple #[]) ∧ AsmPost w B b (s.emit xs) (n + 2 * m) w' := by
  have HX := Lib.hid hx
  have HH := Lib.hid h
  have HL := Lib.hid hl
  clear hx h hl
  go_enter Tryz.func27, Tryz.ntmps27
  go_wp2
  go_loopw [8] (fun i wr => ∃ j : Nat, j ≤ m ∧ i = .int .i64 j ∧ Hid (AsmPost w B b (s.emit (xs.take j)) (n + 2 * j) wr)) (fun i _ => m - (intOf i).toNat)
  case atStart => exact ⟨0, Nat.zero_le _, rfl, HH.out, Kc.refl _ _, Below.refl _ _⟩
  case round =>
    obtain ⟨j, hj, rfl, HP⟩ := hrel
    by_cases h1 : j < m
    · obtain ⟨g, o, l, rfl, hgB, hcell, HXL⟩ := (HX.out.kc HP.out.2.1).val h1
      go_wp2_with fail
      refine (asm_register _ B b (n + 2 * j) (s.emit (xs.take j)) l HP.out.1 (by omega) (HL.out l (List.mem_of_getElem? HXL.out))).mono ?_
      rintro e w1 ⟨rfl, H⟩
      have H1 := Lib.hid H
      clear H
      go_wp2_with fail
      refine (asm_append _ B b (n + 2 * j + 1) ((s.emit (xs.take j)).rg l).1 ⟨16, ((s.emit (xs.take j)).rg l).2, 0, 0, 0⟩ H1.out.1 (by omega)).mono ?_
      rintro e w2 ⟨rfl, H⟩
      have H2 := Lib.hid H
      clear H
      go_wp2
      go_roundw
      case rel =>
        refine ⟨j + 1, by omega, by go_num, ?_⟩
        have := (HP.out.trans H1.out).trans H2.out
        rw [at_take HXL.out]
        unfold Bs.emit at *
        rw [List.foldl_append, show n + 2 * (j + 1) = n + 2 * j + 1 + 1 by omega]
        exact this
      case measure => simp [intOf]; omega
    · obtain rfl : j = m := by omega
      go_wp2
      refine bodyPost_end (v := .tuple #[]) (results_noneA rfl _ _) rfl ?_
      have := HP.out
      rw [List.take_of_length_le (by rw [HX.out.len]; exact Nat.le_refl _)] at this
      exact ⟨rfl, this⟩
/-- A builder that has just been made. -/
theorem bd_made (w : World) (v : Value) (hv : v = .slice none 0 0) : BdAt ((((w.alloc (.map #[] 0)).alloc (.map #[] 0)).alloc (.cells #[.slice none 0 0, .map (some w.heap.size), .map (some (w.heap.size + 1)), .slice none 0 0, .bool false] 86))) w.heap.size (w.heap.size + 2) ⟨[], [], [], [], false⟩ 0 := by
  refine ⟨.slice none 0 0, .slice none 0 0, w.heap.size, w.heap.size + 1, ?_, World.ownsRow_nil _ _ _ _, World.ownsRow_nil _ _ _ _, ?_, ?_, ⟨by omega, by omega, by omega, by omega⟩, ⟨Nat.le_refl _, Nat.le_refl _, Nat.le_refl _⟩⟩
  · have := Box.newAt ((w.alloc (.map #[] 0)).alloc (.map #[] 0)) 86 [.slice none 0 0, .map (some w.heap.size), .map (some (w.heap.size + 1)), .slice none 0 0, .bool false] (w.heap.size + 2) (by simp)
    exact this
  · exact ((MS.made w).kept (World.grownBy_alloc _ _ none) (by simp)).kept (World.grownBy_alloc _ _ none) (by simp)
  · have := MS.made (w.alloc (.map #[] 0))
    rw [show (w.alloc (.map #[] 0)).heap.size = w.heap.size + 1 by simp] at this
    exact this.kept (World.grownBy_alloc _ _ none) (by simp)
set_option maxHeartbeats 1000000 in
theorem asm_New (w : World) (A : Option Addr) (m c : Nat) (xs : List Nm) (hx : QN w A m xs) (hm : m ≤ 1000) (hl : ∀ x ∈ xs, x.length ≤ 1000) (hd : ∀ (j : Nat) l, xs[j]? = some l → nmAsk (Bs.new (xs.take j)).regs l = none) :
    Calls Tryz.prog 17 #[.slice A m c] w fun e w' => ∃ b, e = .returned (.pointer (some ⟨b, 0, none⟩)) ∧ AsmPost w w.heap.size b (Bs.new xs) m w' := by
  have HX := Lib.hid hx
  have HL := Lib.hid hl
  have HD := Lib.hid hd
  have HB0 := Lib.hid (bd_made w (.slice none 0 0) rfl)
  have h0 := ((((Below.refl w.heap.size w).alloc (Nat.le_refl _) (.map #[] 0)).alloc (by simp) (.map #[] 0)).alloc (by simp; omega) (.cells #[.slice none 0 0, .map (some w.heap.size), .map (some (w.heap.size + 1)), .slice none 0 0, .bool false] 86))
  clear hx hl hd
  have hmm := @run_makeMap Tryz.prog
  go_enter Tryz.func17, Tryz.ntmps17
  go_wp2
  go_loopw [14] (fun i wr => ∃ j : Nat, j ≤ m ∧ i = .int .i64 j ∧ Hid (AsmPost w w.heap.size (w.heap.size + 2) (Bs.new (xs.take j)) j wr)) (fun i _ => m - (intOf i).toNat)
  case atStart => exact ⟨0, Nat.zero_le _, rfl, HB0.out, Kc.below h0, h0⟩
  case round =>
    obtain ⟨j, hj, rfl, HP⟩ := hrel
    by_cases h1 : j < m
    · obtain ⟨g, o, l, rfl, hgB, hcell, HXL⟩ := (HX.out.kc HP.out.2.1).val h1
      obtain ⟨cv, jv, rm, lm, hb⟩ := HP.out.1
      have c1 : wr.cell? ⟨w.heap.size + 2, 1, none⟩ = some (.map (some rm)) := hb.box.cell 1
      have hlt := hb.lt
      have HBD := Lib.hid hb
      have HDL := Lib.hid (HD.out j l HXL.out)
      clear hb
      go_wp2_with (refine wp_lookN rfl (.tmp 22) (.tmp 23) rfl rm j (Bs.new (xs.take j)).regs l rfl HBD.out.regs rfl (HL.out l (List.mem_of_getElem? HXL.out)) none HDL.out ?_)
      refine (asm_register _ _ _ j (Bs.new (xs.take j)) l HP.out.1 (by omega) (HL.out l (List.mem_of_getElem? HXL.out))).mono ?_
      rintro e w1 ⟨rfl, H⟩
      have H1 := Lib.hid H
      clear H
      go_wp2
      go_roundw
      case rel =>
        refine ⟨j + 1, by omega, by go_num, ?_⟩
        have := HP.out.trans H1.out
        rw [at_take HXL.out]
        unfold Bs.new at *
        rw [List.foldl_append]
        exact this
      case measure => simp [intOf]; omega
    · obtain rfl : j = m := by omega
      go_wp2
      go_ret
      have := HP.out
      rw [List.take_of_length_le (by rw [HX.out.len]; exact Nat.le_refl _)] at this
      exact ⟨_, rfl, this⟩
end Go.Proofs.YtnchgdjdfhfedaaGreatDoor

set_option linter.unusedSimpArgs false
set_option linter.unusedVariables false
namespace Go.Proofs.YtnchgdjdfhfedaaGreatDoor
open Go.Baro

/-- A field that is possible as an operand of this sort. -/
def alw (o n : Int) (len : Nat) : Prop := if o = 1 then 0 ≤ n ∧ n < 24 else if o = 2 then 0 ≤ n ∧ n ≤ len else if o = 3 then True else n = 0
theorem okI_row {len k : Nat} {a b c d A B C D : Int} (hk : 1 ≤ k) (h : tabRows[k]? = some (a, b, c, d)) : okI len ⟨k, A, B, C, D⟩ ↔ alw a A len ∧ alw b B len ∧ alw c C len ∧ alw d D len := by
  have h18 : k < 18 := (List.getElem?_eq_some_iff.1 h).1
  rcases (by omega : k = 1 ∨ k = 2 ∨ k = 3 ∨ k = 4 ∨ k = 5 ∨ k = 6 ∨ k = 7 ∨ k = 8 ∨ k = 9 ∨ k = 10 ∨ k = 11 ∨ k = 12 ∨ k = 13 ∨ k = 14 ∨ k = 15 ∨ k = 16 ∨ k = 17) with rfl | rfl | rfl | rfl | rfl | rfl | rfl | rfl | rfl | rfl | rfl | rfl | rfl | rfl | rfl | rfl | rfl <;>
    (simp [tabRows] at h; obtain ⟨rfl, rfl, rfl, rfl⟩ := h; simp [okI, alw, isR, isT])
theorem row_small {k : Nat} {a b c d : Int} (h : tabRows[k]? = some (a, b, c, d)) : (0 ≤ a ∧ a ≤ 3) ∧ (0 ≤ b ∧ b ≤ 3) ∧ (0 ≤ c ∧ c ≤ 3) ∧ (0 ≤ d ∧ d ≤ 3) := by
  have hm := List.mem_of_getElem? h
  have : ∀ r ∈ tabRows, (0 ≤ r.1 ∧ r.1 ≤ 3) ∧ (0 ≤ r.2.1 ∧ r.2.1 ≤ 3) ∧ (0 ≤ r.2.2.1 ∧ r.2.2.1 ≤ 3) ∧ (0 ≤ r.2.2.2 ∧ r.2.2.2 ≤ 3) := by decide
  exact this _ hm
theorem row_at {k : Nat} (h : k < 18) : ∃ a b c d, tabRows[k]? = some (a, b, c, d) := by
  have : k < tabRows.length := h
  exact ⟨_, _, _, _, List.getElem?_eq_getElem this⟩
theorem okI_kind {len : Nat} {o : Ins} (h : okI len o) : 1 ≤ o.k ∧ o.k ≤ 17 := by unfold okI at h; omega
end Go.Proofs.YtnchgdjdfhfedaaGreatDoor

set_option linter.unusedSimpArgs false
set_option linter.unusedVariables false
namespace Go.Proofs.YtnchgdjdfhfedaaGreatDoor
open Go.RowKit Go.Ord Go.Baro

theorem vm_truth (b : Bool) (w : World) : Calls Tryz.prog 83 #[.bool b] w fun e w' => e = .returned (.int .i64 (if b then 1 else 0)) ∧ w = w' := by
  cases b with
  | false =>
    go_enter Tryz.func83, Tryz.ntmps83
    go_wp2
    go_ret
    exact ⟨rfl, rfl⟩
  | true =>
    go_enter Tryz.func83, Tryz.ntmps83
    go_wp2
    go_ret
    exact ⟨rfl, rfl⟩

set_option maxHeartbeats 1000000 in
theorem vm_allows (o n : Int) (len : Nat) (r : Bool) (w : World) (ho : 0 ≤ o ∧ o ≤ 3) (hr : r = true ↔ alw o n len) :
    Calls Tryz.prog 72 #[.int .i64 o, .int .i64 n, .int .i64 len] w fun e w' => e = .returned (.bool r) ∧ w = w' := by
  have H := Lib.hid hr
  clear hr
  rcases (by omega : o = 0 ∨ o = 1 ∨ o = 2 ∨ o = 3) with rfl | rfl | rfl | rfl
  · go_enter Tryz.func72, Tryz.ntmps72
    go_wp2
    go_ret
    refine ⟨ret_bool ?_, rfl⟩
    have := H.out
    simp [alw] at this
    cases r <;> simp at this ⊢ <;> omega
  · by_cases h : 0 ≤ n
    · go_enter Tryz.func72, Tryz.ntmps72
      go_wp2
      go_ret
      refine ⟨ret_bool ?_, rfl⟩
      have := H.out
      simp [alw] at this
      cases r <;> simp at this ⊢ <;> omega
    · go_enter Tryz.func72, Tryz.ntmps72
      go_wp2
      go_ret
      refine ⟨ret_bool ?_, rfl⟩
      have := H.out
      simp [alw] at this
      cases r <;> simp at this ⊢ <;> omega
  · by_cases h : 0 ≤ n
    · go_enter Tryz.func72, Tryz.ntmps72
      go_wp2
      go_ret
      refine ⟨ret_bool ?_, rfl⟩
      have := H.out
      simp [alw] at this
      cases r <;> simp at this ⊢ <;> omega
    · go_enter Tryz.func72, Tryz.ntmps72
      go_wp2
      go_ret
      refine ⟨ret_bool ?_, rfl⟩
      have := H.out
      simp [alw] at this
      cases r <;> simp at this ⊢ <;> omega
  · go_enter Tryz.func72, Tryz.ntmps72
    go_wp2
    go_ret
    refine ⟨ret_bool ?_, rfl⟩
    have := H.out
    simp [alw] at this
    simp [this]

theorem ix_row0 (a b c d : Int) (W : World) : (Instr.index 132 (.agg #[.int .i64 a, .int .i64 b, .int .i64 c, .int .i64 d]) (.int .i64 0)).run Tryz.prog W = .ok (.int .i64 a) W := by kernel_rfl
theorem ix_row1 (a b c d : Int) (W : World) : (Instr.index 132 (.agg #[.int .i64 a, .int .i64 b, .int .i64 c, .int .i64 d]) (.int .i64 1)).run Tryz.prog W = .ok (.int .i64 b) W := by kernel_rfl
theorem ix_row2 (a b c d : Int) (W : World) : (Instr.index 132 (.agg #[.int .i64 a, .int .i64 b, .int .i64 c, .int .i64 d]) (.int .i64 2)).run Tryz.prog W = .ok (.int .i64 c) W := by kernel_rfl
theorem ix_row3 (a b c d : Int) (W : World) : (Instr.index 132 (.agg #[.int .i64 a, .int .i64 b, .int .i64 c, .int .i64 d]) (.int .i64 3)).run Tryz.prog W = .ok (.int .i64 d) W := by kernel_rfl
set_option maxRecDepth 100000 in
theorem ix_row (a b c d : Int) (W : World) (j : Nat) (x : Int) (h : [a, b, c, d][j]? = some x) : (Instr.index 132 (.agg #[.int .i64 a, .int .i64 b, .int .i64 c, .int .i64 d]) (.int .i64 j)).run Tryz.prog W = .ok (.int .i64 x) W := by
  have hj : j < 4 := (List.getElem?_eq_some_iff.1 h).1
  rcases (by omega : j = 0 ∨ j = 1 ∨ j = 2 ∨ j = 3) with rfl | rfl | rfl | rfl
  · injection h with h; subst h; exact ix_row0 _ _ _ _ W
  · injection h with h; subst h; exact ix_row1 _ _ _ _ W
  · injection h with h; subst h; exact ix_row2 _ _ _ _ W
  · injection h with h; subst h; exact ix_row3 _ _ _ _ W

theorem alw_four {a b c d A B C D : Int} {len : Nat} : (alw a A len ∧ alw b B len ∧ alw c C len ∧ alw d D len) ↔ ∀ (j : Nat) (x y : Int), [a, b, c, d][j]? = some x → [A, B, C, D][j]? = some y → alw x y len := by
  constructor
  · rintro ⟨h0, h1, h2, h3⟩ j x y hx hy
    have hj : j < 4 := (List.getElem?_eq_some_iff.1 hx).1
    rcases (by omega : j = 0 ∨ j = 1 ∨ j = 2 ∨ j = 3) with rfl | rfl | rfl | rfl <;> (simp at hx hy; subst hx hy; assumption)
  · intro h
    exact ⟨h 0 _ _ rfl rfl, h 1 _ _ rfl rfl, h 2 _ _ rfl rfl, h 3 _ _ rfl rfl⟩

set_option maxRecDepth 100000 in
set_option maxHeartbeats 2000000 in
theorem vm_valid (k A B C D : Int) (len : Nat) (r : Bool) (w : World) (hT : Tab w) (hr : r = true ↔ okI len ⟨k, A, B, C, D⟩) (hlen : len ≤ 200) :
    Calls Tryz.prog 56 #[.agg #[.int .i64 k, .int .i64 A, .int .i64 B, .int .i64 C, .int .i64 D], .int .i64 len] w fun e w' => e = .returned (.bool r) ∧ Below w.heap.size w w' := by
  have h0 : Below w.heap.size w w := Below.refl _ _
  by_cases hk : 1 ≤ k ∧ k ≤ 17
  · obtain ⟨kn, rfl⟩ : ∃ kn : Nat, k = kn := ⟨k.toNat, by omega⟩
    have hk1 : 1 ≤ kn := by omega
    have hk2 : kn ≤ 17 := by omega
    clear hk
    obtain ⟨a, b, c, d, hrow⟩ := row_at (k := kn) (by omega)
    rw [okI_row hk1 hrow, alw_four] at hr
    have H := Lib.hid hr
    clear hr
    obtain ⟨sa, sb, sc, sd⟩ := row_small hrow
    obtain ⟨t0, t1, t2, t3⟩ := hT kn a b c d hrow
    have hlt := hT.lt
    have hA := (h0.alloc (Nat.le_refl _) (Obj.cells #[.int .i64 kn, .int .i64 A, .int .i64 B, .int .i64 C, .int .i64 D] 67)).alloc (by simp) (Obj.cells #[.int .i64 A, .int .i64 B, .int .i64 C, .int .i64 D] 130)
    have HS := Lib.hid (show ∀ x ∈ [a, b, c, d], 0 ≤ x ∧ x ≤ 3 by simp; exact ⟨sa, sb, sc, sd⟩)
    clear hrow hT sa sb sc sd
    have bx := Box.newAt (w.alloc (Obj.cells #[.int .i64 kn, .int .i64 A, .int .i64 B, .int .i64 C, .int .i64 D] 67)) 130 [.int .i64 A, .int .i64 B, .int .i64 C, .int .i64 D] (w.heap.size + 1) (by simp)
    go_enter Tryz.func56, Tryz.ntmps56
    go_wp2
    clear t0 t1 t2 t3
    go_loop [29] (fun i => ∃ j : Nat, j ≤ 4 ∧ i = .int .i64 j ∧ Hid (∀ (q : Nat) (x y : Int), q < j → [a, b, c, d][q]? = some x → [A, B, C, D][q]? = some y → alw x y len)) (fun i => 4 - (intOf i).toNat)
    case atStart => exact ⟨0, Nat.zero_le _, rfl, fun q x y hq => absurd hq (by omega)⟩
    case round =>
      obtain ⟨j, hj, rfl, HC⟩ := hrel
      by_cases hj4 : j < 4
      · obtain ⟨x, hx⟩ : ∃ x, [a, b, c, d][j]? = some x := ⟨_, List.getElem?_eq_getElem (by simpa using hj4)⟩
        obtain ⟨y, hy⟩ : ∃ y, [A, B, C, D][j]? = some y := ⟨_, List.getElem?_eq_getElem (by simpa using hj4)⟩
        have hix := fun W => ix_row a b c d W j x hx
        have hcy : ((w.alloc (Obj.cells #[.int .i64 kn, .int .i64 A, .int .i64 B, .int .i64 C, .int .i64 D] 67)).alloc (Obj.cells #[.int .i64 A, .int .i64 B, .int .i64 C, .int .i64 D] 130)).cell? ⟨w.heap.size + 1, j, none⟩ = some (.int .i64 y) := by
          have := bx.cell j
          rw [show ([.int .i64 A, .int .i64 B, .int .i64 C, .int .i64 D] : List Value) = [A, B, C, D].map (Value.int .i64) from rfl, List.getElem?_map, hy] at this
          exact this
        have hsx := HS.out x (List.mem_of_getElem? hx)
        have HX := Lib.hid hx
        have HY := Lib.hid hy
        clear hx hy
        by_cases hal : alw x y len
        · have HAL := Lib.hid hal
          clear hal
          go_wp2_with fail
          refine (vm_allows x y len true _ hsx (by simp; exact HAL.out)).mono ?_
          rintro e w' ⟨rfl, rfl⟩
          go_wp2
          go_round
          case rel =>
            refine ⟨j + 1, by omega, by go_num, ?_⟩
            intro q x' y' hq hx' hy'
            by_cases hqj : q = j
            · subst hqj
              rw [HX.out] at hx'; rw [HY.out] at hy'
              injection hx' with hx'; injection hy' with hy'
              subst hx' hy'
              exact HAL.out
            · exact HC.out q x' y' (by omega) hx' hy'
          case measure => simp [intOf]; omega
        · have HAL := Lib.hid hal
          clear hal
          go_wp2_with fail
          refine (vm_allows x y len false _ hsx (by simp; exact HAL.out)).mono ?_
          rintro e w' ⟨rfl, rfl⟩
          go_wp2
          go_ret
          refine ⟨ret_bool ?_, hA⟩
          cases r with
          | false => rfl
          | true => exact absurd (H.out.1 rfl j x y HX.out HY.out) HAL.out
      · have : j = 4 := by omega
        subst this
        go_wp2
        go_ret
        refine ⟨ret_bool ?_, hA⟩
        exact (H.out.2 fun q x y hx hy => HC.out q x y (List.getElem?_eq_some_iff.1 hx).1 hx hy).symm
  · have hrf : r = false := by
      cases r with
      | false => rfl
      | true => exact absurd (okI_kind (hr.1 rfl)) hk
    subst hrf
    clear hr
    by_cases h1 : k < 1
    · go_enter Tryz.func56, Tryz.ntmps56
      go_wp2
      go_ret
      exact ⟨rfl, h0.alloc (Nat.le_refl _) _⟩
    · have h2 : 17 < k := by omega
      go_enter Tryz.func56, Tryz.ntmps56
      go_wp2
      go_ret
      exact ⟨rfl, h0.alloc (Nat.le_refl _) _⟩
end Go.Proofs.YtnchgdjdfhfedaaGreatDoor

set_option linter.unusedSimpArgs false
set_option linter.unusedVariables false
namespace Go.Proofs.YtnchgdjdfhfedaaGreatDoor
open Go.RowKit Go.Ord Go.Baro

set_option maxRecDepth 100000 in
set_option maxHeartbeats 2000000 in
theorem vm_May (l : List Ins) (A : Option Addr) (n c : Nat) (r : Bool) (w : World) (B : Nat) (hT : Tab w) (hb : RO w B A n l) (hB : B ≤ w.heap.size) (hn : n ≤ 9223372036854775807) (hr : r = true ↔ okC l) :
    Calls Tryz.prog 43 #[.slice A n c] w fun e w' => e = .returned (.bool r) ∧ Below w.heap.size w w' := by
  have HL := Lib.hid hb.len
  have H := Lib.hid hr
  clear hr
  have h0 : Below w.heap.size w w := Below.refl _ _
  have hlt := hT.lt
  by_cases hn2 : n ≤ 200
  · go_enter Tryz.func43, Tryz.ntmps43
    go_wp2
    go_loopw [10] (fun i wr => ∃ j : Nat, j ≤ n ∧ i = .int .i64 j ∧ Hid (∀ o ∈ l.take j, okI n o) ∧ Below w.heap.size w wr) (fun i _ => n - (intOf i).toNat)
    case atStart => exact ⟨0, Nat.zero_le _, rfl, by simp [Hid], h0⟩
    case round =>
      obtain ⟨j, hj, rfl, HC, hbel⟩ := hrel
      have hsz := hbel.size
      by_cases hjn : j < n
      · obtain ⟨b, o, k, x, y, z, u, rfl, hbB, c0, c1, c2, c3, c4, HX, hmem⟩ := (hb.below (hbel.mono hB)).val hjn
        have hbs : b < wr.heap.size := by omega
        have hal := hbel.alloc hsz (Obj.cells #[.int .i64 k, .int .i64 x, .int .i64 y, .int .i64 z, .int .i64 u] 67)
        by_cases hok : okI n ⟨k, x, y, z, u⟩
        · have HOK := Lib.hid hok
          clear hok
          go_wp2_with fail
          refine (vm_valid k x y z u n true _ (hT.below hal hlt) (by simp; exact HOK.out) hn2).mono ?_
          rintro e w1 ⟨rfl, hb1⟩
          go_wp2
          go_roundw
          case rel =>
            refine ⟨j + 1, by omega, by go_num, ?_, hal.trans (hb1.mono (by simp; omega))⟩
            intro q hq
            rw [at_take HX.out] at hq
            rcases List.mem_append.1 hq with hq | hq
            · exact HC.out q hq
            · rw [List.mem_singleton.1 hq]; exact HOK.out
          case measure => simp [intOf]; omega
        · have HOK := Lib.hid hok
          clear hok
          go_wp2_with fail
          refine (vm_valid k x y z u n false _ (hT.below hal hlt) (by simp; exact HOK.out) hn2).mono ?_
          rintro e w1 ⟨rfl, hb1⟩
          go_wp2
          go_ret
          refine ⟨ret_bool ?_, hal.trans (hb1.mono (by simp; omega))⟩
          cases r with
          | false => rfl
          | true =>
            have := (H.out.1 rfl).2 _ hmem
            rw [HL.out] at this
            exact absurd this HOK.out
      · go_wp2
        go_ret
        refine ⟨ret_bool ?_, hbel⟩
        refine (H.out.2 ⟨by rw [HL.out]; exact hn2, fun o ho => ?_⟩).symm
        have he := HC.out
        rw [List.take_of_length_le (by rw [HL.out]; omega)] at he
        rw [HL.out]
        exact he o ho
  · go_enter Tryz.func43, Tryz.ntmps43
    go_wp2
    go_ret
    refine ⟨ret_bool ?_, h0⟩
    cases r with
    | false => rfl
    | true =>
      have := (H.out.1 rfl).1
      rw [HL.out] at this
      omega


set_option maxHeartbeats 2000000 in
theorem vm_compute (k b c : Int) (w : World) (hk : 3 ≤ k ∧ k ≤ 9) (hc : inW c) (hb : inW b) :
    Calls Tryz.prog 76 #[.int .i64 k, .int .i64 b, .int .i64 c] w fun e w' => e = .returned (.int .i64 (cmpV k b c)) ∧ w = w' := by
  have HC := Lib.hid hc
  have HB := Lib.hid hb
  clear hc hb
  rcases (by omega : k = 3 ∨ k = 4 ∨ k = 5 ∨ k = 6 ∨ k = 7 ∨ k = 8 ∨ k = 9) with rfl | rfl | rfl | rfl | rfl | rfl | rfl
  · go_enter Tryz.func76, Tryz.ntmps76
    go_wp2
    go_ret
    exact ⟨rfl, rfl⟩
  · go_enter Tryz.func76, Tryz.ntmps76
    go_wp2
    go_ret
    exact ⟨rfl, rfl⟩
  · go_enter Tryz.func76, Tryz.ntmps76
    go_wp2
    go_ret
    exact ⟨rfl, rfl⟩
  · by_cases h : c = 0
    · subst h
      go_enter Tryz.func76, Tryz.ntmps76
      go_wp2
      go_ret
      exact ⟨rfl, rfl⟩
    · have h1 : (c == 0) = false := by simp [h]
      have h2 : (c != 0) = true := by simp [h]
      go_enter Tryz.func76, Tryz.ntmps76
      go_wp2
      go_ret
      exact ⟨ret_int (by simp [cmpV, h]), rfl⟩
  · by_cases h : c = 0
    · subst h
      go_enter Tryz.func76, Tryz.ntmps76
      go_wp2
      go_ret
      exact ⟨rfl, rfl⟩
    · have h1 : (c == 0) = false := by simp [h]
      have h2 : (c != 0) = true := by simp [h]
      have HW := Lib.hid (tmod_in (b := b) h HC.out)
      go_enter Tryz.func76, Tryz.ntmps76
      go_wp2
      go_ret
      refine ⟨ret_int ?_, rfl⟩
      have := HW.out
      unfold inW at this
      simp [cmpV, h]
      first | done | exact IntWalk.wrap64_in _ this
  · by_cases h : b = c
    · subst h
      go_enter Tryz.func76, Tryz.ntmps76
      go_wp2_with fail
      refine (vm_truth true _).mono ?_
      rintro e w1 ⟨rfl, rfl⟩
      go_wp2
      go_ret
      exact ⟨ret_int (by simp [cmpV]), rfl⟩
    · have h1 : (b == c) = false := by simp [h]
      go_enter Tryz.func76, Tryz.ntmps76
      go_wp2_with fail
      refine (vm_truth false _).mono ?_
      rintro e w1 ⟨rfl, rfl⟩
      go_wp2
      go_ret
      exact ⟨ret_int (by simp [cmpV, h]), rfl⟩
  · by_cases h : b < c
    · skip
      go_enter Tryz.func76, Tryz.ntmps76
      go_wp2_with fail
      refine (vm_truth true _).mono ?_
      rintro e w1 ⟨rfl, rfl⟩
      go_wp2
      go_ret
      exact ⟨ret_int (by simp [cmpV, h]), rfl⟩
    · skip
      go_enter Tryz.func76, Tryz.ntmps76
      go_wp2_with fail
      refine (vm_truth false _).mono ?_
      rintro e w1 ⟨rfl, rfl⟩
      go_wp2
      go_ret
      exact ⟨ret_int (by simp [cmpV, h]), rfl⟩
end Go.Proofs.YtnchgdjdfhfedaaGreatDoor

set_option linter.unusedSimpArgs false
set_option linter.unusedVariables false
namespace Go.Proofs.YtnchgdjdfhfedaaGreatDoor
open Go.RowKit Go.Ord Go.Baro

section
variable {P : Program} {t e : TypeId} {z : Value} {s by' : Nat} {ops : Array Oper} {rest : List Oper} {o : Oper} {a : Act} {Q : Exit → Act → World → Prop}
/-- append to a slice without room: into a new block. -/
theorem app_full (E : Elt P t e z s by') (w : World) (hgd : o.guard = none) (l x : Operand) (ho : o.op = .call { callee := .builtin .append, args := #[l, x], argTypes := #[t, t] })
    (A : Option Addr) (n : Nat) (xs : List Value) (hs : a.eval l = .slice A n n) (B : Nat) (hr : Rd w B s A n xs) (hA : A = none → n = 0) (hB : B ≤ w.heap.size) (m : Nat) (hm : 0 < m) (cs : List Value)
    (g : Nat) (hg : g = w.heap.size) (hx : a.eval x = .slice (some ⟨g, 0, none⟩) m m) (hl : cs.length = m * s) (hn : (n + m) * by' ≤ 140737488355328) (hn' : n + m ≤ 140737488355328)
    (h : ∀ v' w', w'.ownsRow w.heap.size e s v' (n + m) (xs ++ cs) → Below w.heap.size w w' → wpList P ops Q rest (a.put o.dst v') w') :
    wpList P ops Q (o :: rest) a (w.alloc (.cells cs.toArray e)) := by
  have E' := E
  obtain ⟨hu, ⟨i, hi, h5, h6, h7⟩, h3, h4⟩ := E
  subst hg
  have hnews : ∀ j u, cs[j]? = some u → (w.alloc (.cells cs.toArray e)).cell? ((⟨w.heap.size, 0, none⟩ : Addr).add j) = some u := by
    intro j u hj
    have hr : (w.alloc (.cells cs.toArray e)).heap[w.heap.size]? = some (.cells cs.toArray e (0, 0)) := heap_alloc_new w _
    rw [Addr.add_lit, Nat.zero_add, cell_of_row _ _ _ _ _ _ hr]
    simpa using hj
  have hgr : ∀ (cap : Nat) (zs : Array Value), n + m ≤ cap → cap ≤ maxLen → zs.size = (cap - (n + m)) * s →
      ((w.alloc (.cells cs.toArray e)).drew.alloc (.cells ((xs ++ cs).toArray ++ zs) e)).ownsRow w.heap.size e s (.slice (some ⟨(w.alloc (.cells cs.toArray e)).heap.size, 0, none⟩) (n + m) cap) (n + m) (xs ++ cs) := by
    intro cap zs h1 h2 h3
    have hlen : (xs ++ cs).length = (n + m) * s := by rw [List.length_append, hr.len, hl, Nat.add_mul]
    refine ⟨hlen, .inr ⟨_, cap, _, rfl, by simp, heap_alloc_new (w.alloc (.cells cs.toArray e)).drew _, h1, h2, ?_, ?_⟩⟩
    · rw [Array.size_append, List.size_toArray, hlen, h3, ← Nat.add_mul]
      congr 1
      omega
    · rw [Array.toList_append, ← hlen]
      exact List.take_left
  have hbl : ∀ o2, Below w.heap.size w ((w.alloc (.cells cs.toArray e)).drew.alloc o2) := fun o2 => (((Below.refl w.heap.size w).alloc (Nat.le_refl _) _).drew).alloc (by simp) o2
  have hcm : ∀ old, grownCap (w.alloc (.cells cs.toArray e)) (n + m) old e ≤ maxLen := fun old => grownCap_le_maxLen _ (n + m) old e (by unfold maxLen; omega)
  have hge : ∀ old, n + m ≤ grownCap (w.alloc (.cells cs.toArray e)) (n + m) old e := fun old => grownCap_ge _ (n + m) old e
  refine wpList_plain hgd fun K hK => ?_
  cases A with
  | none =>
    obtain rfl := hA rfl
    have hx0 : xs = [] := List.eq_nil_of_length_eq_zero (by simpa using hr.len)
    subst hx0
    have hrun := _root_.Go.run_append_nil (P := P) (w.alloc (.cells cs.toArray e)) t o.type e i z hu hi h5 ⟨w.heap.size, 0, none⟩ m m cs (by rw [h6]; exact hl) hnews hm (by omega) (by rw [h7]; rw [Nat.zero_add] at hn; omega)
    unfold Oper.wp
    simp [execOp, ho, resolve, invoke, builtin, hs, hx, hrun, Result.andThen]
    have h1 := hgr (grownCap (w.alloc (.cells cs.toArray e)) m 0 e) (Builtin.zeroCells z.cells (grownCap (w.alloc (.cells cs.toArray e)) m 0 e - m)) (by have := hge 0; rwa [Nat.zero_add] at this ⊢) (by have := hcm 0; rwa [Nat.zero_add] at this) (by rw [size_zeroCells, h3, Nat.zero_add])
    rw [List.nil_append, Nat.zero_add] at h1
    exact hK _ _ (h _ _ (by rw [Nat.zero_add]; simpa using h1) (hbl _))
  | some ad =>
    have holds : ∀ j u, xs[j]? = some u → (w.alloc (.cells cs.toArray e)).cell? (ad.add j) = some u := by
      intro j u hj
      have hjl : j < n * s := by rw [← hr.len]; exact (List.getElem?_eq_some_iff.1 hj).1
      obtain ⟨b, q, hA, hb, hc⟩ := hr.at_ (by rcases Nat.eq_zero_or_pos n with h0 | h0; simp [h0] at hjl; exact h0)
      injection hA with hA
      subst hA
      rw [Addr.add_lit]
      refine (World.cell?_of_block (w := w) (a := ⟨b, q + j, none⟩) (Below.heap_alloc w _ b (by omega))).trans ?_
      rw [hc j hjl, hj]
    have hrun := run_append_grow (P := P) (w.alloc (.cells cs.toArray e)) t o.type e i z hu hi h5 ad n n xs (by rw [h6]; exact hr.len) holds ⟨w.heap.size, 0, none⟩ m m cs (by rw [h6]; exact hl) hnews (by omega) (by omega) (growslice_fits (by omega) (by rw [h7]; exact hn))
    unfold Oper.wp
    simp [execOp, ho, resolve, invoke, builtin, hs, hx, hrun, Result.andThen]
    have h1 := hgr (grownCap (w.alloc (.cells cs.toArray e)) (n + m) n e) (Builtin.zeroCells z.cells (grownCap (w.alloc (.cells cs.toArray e)) (n + m) n e - (n + m))) (hge n) (hcm n) (by rw [size_zeroCells, h3])
    exact hK _ _ (h _ _ (by simpa using h1) (hbl _))
end
end Go.Proofs.YtnchgdjdfhfedaaGreatDoor

set_option linter.unusedSimpArgs false
set_option linter.unusedVariables false
namespace Go.Proofs.YtnchgdjdfhfedaaGreatDoor
open Go.RowKit Go.Ord Go.Baro

theorem eltInt : Elt Tryz.prog 22 3 (.int .i64 0) 1 8 := Elt.mk' Tryz.underlying22 (by kernel_rfl) rfl (by decide)
abbrev ToV (T : TypeId) (pre post : List Value) := To T 3 pre post

theorem vm_endedo (T : TypeId) (pre post : List Value) (o : Nat) (w : World) (B b n c : Nat) (A : Option Addr) (tv wv : Value) (s : Vs) (r : Bool) (h : ToV T pre post w B b o (.slice A n c) tv wv s) (hr : r = true ↔ s.p = n) :
    Calls Tryz.prog 47 #[.pointer (some ⟨b, o, none⟩)] w fun e w' => e = .returned (.bool r) ∧ w' = w.drewN 1 := by
  have H := Lib.hid hr
  clear hr
  have c0 := h.code
  have c1 := h.at_
  have hlt := h.lt
  clear h
  go_enter Tryz.func47, Tryz.ntmps47
  go_wp2
  refine region_two [0, 1, 2, 3, 4, 5, 6, 7, 8, 9, 10] [] (by kernel_rfl) (by kernel_rfl) ?_
  simp only [pick, List.map_cons, List.map_nil, List.getD_cons_zero, List.getD_cons_succ]
  go_wp2
  go_ret
  refine ⟨ret_bool ?_, rfl⟩
  have := H.out
  cases r <;> simp at this ⊢ <;> omega

theorem std_Clip (w : World) (A : Option Addr) (n c : Nat) (hc : n ≤ c) :
    Calls Tryz.prog 84 #[.slice A n c] w fun e w' => e = .returned (.slice A n n) ∧ w' = w := by
  go_enter Tryz.func84, Tryz.ntmps84
  go_wp2
  go_ret
  exact ⟨rfl, rfl⟩
set_option maxHeartbeats 2000000 in
theorem vm_emito (T : TypeId) (pre post : List Value) (o : Nat) (w : World) (B b : Nat) (cv tv wv : Value) (s : Vs) (x : Int) (h : ToV T pre post w B b o cv tv wv s) (hBs : B ≤ w.heap.size) (hl : s.t.length ≤ 200) (E : Int) (t' : List Int) (hE : E = if s.t.length = 200 then 8 else 0) (ht : t' = if s.t.length = 200 then s.t else s.t ++ [x]) :
    Calls Tryz.prog 75 #[.pointer (some ⟨b, o, none⟩), .int .i64 x] w fun e w' => e = .returned (.int .i64 E) ∧ (∃ tv', ToV T pre post w' B b o cv tv' wv { s with t := t' } ∧ (tv'.ownBlock = tv.ownBlock ∨ ∃ k, tv'.ownBlock = some k ∧ w.heap.size ≤ k)) ∧ Un (touch b b tv wv) w w' := by
  obtain ⟨p, r, ws, t⟩ := s
  dsimp only at hl hE ht
  have c26 := h.toldv
  have hlt := h.lt
  have h0 : Un (touch b b tv wv) w w := Un.refl _ _
  have hf := h.box.frozen (o + 26)
  obtain ⟨A, c, rfl, hlc⟩ := own_form h.told
  dsimp only at c26 hlc
  by_cases hfull : t.length = 200
  · rw [if_pos hfull] at hE ht
    subst hE ht
    rw [hfull] at c26
    have HTH := Lib.hid h
    clear h hfull hlc
    go_enter Tryz.func75, Tryz.ntmps75
    go_wp2
    go_ret
    exact ⟨rfl, ⟨_, HTH.out, .inl rfl⟩, h0⟩
  · rw [if_neg hfull] at hE ht
    subst hE
    have HT := Lib.hid ht
    obtain ⟨m, hm⟩ : ∃ m, m = t.length := ⟨_, rfl⟩
    have htold := h.told
    dsimp only at htold
    rw [← hm] at c26 htold hl hfull h0 ⊢
    have hv : ((m : Int) == 200) = false := by simp; omega
    have HM := Lib.hid hm
    have HTH := Lib.hid (show ToV T pre post w B b o cv (.slice A m c) wv ⟨p, r, ws, t⟩ by rw [hm]; exact h)
    rw [← hm] at hlc
    clear h hm ht
    go_enter Tryz.func75, Tryz.ntmps75
    go_wp2_with fail
    refine (std_Clip _ A m c hlc).mono ?_
    rintro e w1 ⟨rfl, rfl⟩
    have HR := Lib.hid (Rd.of_own htold)
    have HA := Lib.hid (show A = none → m = 0 from fun e => by subst e; rcases htold.2 with ⟨_, q⟩ | ⟨g, cap, cur, q, _⟩; exact q; cases q)
    clear htold
    go_wp2_with (at_builtin; go_must (refine app_full eltInt w1 rfl (.tmp 16) (.tmp 18) rfl A m (t.map (Value.int .i64)) rfl w1.heap.size HR.out HA.out (Nat.le_refl _) 1 (by omega) [.int .i64 x] w1.heap.size rfl rfl rfl (by omega) (by omega) ?_); intro v' w2 hown hb2; obtain ⟨A1, c1, rfl, hlc1⟩ := own_form hown; obtain ⟨hbx, hth, k1, hk1, hk2⟩ := HTH.out.tellB hBs hb2 hown (by rw [HM.out]); have c26' : w2.cell? ⟨b, o + 26, none⟩ = some (.slice A m c) := (by have := hbx.cell (pre.length + 26); rw [mid_at (by rw [thC_len]; omega), HTH.out.off, thC_told] at this; exact this); have hf' := hbx.frozen (o + 26))
    go_ret
    refine ⟨rfl, ?_, un_at (un_below hb2) (.inl rfl) _ _⟩
    rw [HT.out]; exact ⟨_, hth, .inr ⟨k1, hk1, hk2⟩⟩
end Go.Proofs.YtnchgdjdfhfedaaGreatDoor

set_option linter.unusedSimpArgs false
set_option linter.unusedVariables false
namespace Go.Proofs.YtnchgdjdfhfedaaGreatDoor
open Go.RowKit Go.Ord Go.Baro

set_option maxRecDepth 100000 in
set_option maxHeartbeats 4000000 in
theorem vm_accesso (T : TypeId) (pre post : List Value) (o : Nat) (w : World) (B b n wn wc : Nat) (wA : Option Addr) (cv tv : Value) (s s' : Vs) (k a' b' c d' E : Int) (h : ToV T pre post w B b o cv tv (.slice wA wn wc) { s with p := s.p + 1 }) (hBs : B ≤ w.heap.size) (hl : s.w.length ≤ 200)
    (hk : k = 13 ∨ k = 14 ∨ k = 15) (ho : okI n ⟨k, a', b', c, d'⟩) (hs : stp n ⟨k, a', b', c, d'⟩ s = (s', E)) :
    Calls Tryz.prog 74 #[.pointer (some ⟨b, o, none⟩), .agg #[.int .i64 k, .int .i64 a', .int .i64 b', .int .i64 c, .int .i64 d'], .slice wA wn wc] w fun e w' => e = .returned (.int .i64 E) ∧ ToV T pre post w' B b o cv tv (.slice wA wn wc) s' ∧ Un (touch b b tv (.slice wA wn wc)) w w' := by
  obtain ⟨p, r, ws, t⟩ := s
  dsimp only at h hl
  have hra : isR a' := by unfold okI isR isT at ho; unfold isR; dsimp only at ho; omega
  have hrb : isR b' := by unfold okI isR isT at ho; unfold isR; dsimp only at ho; omega
  have hrd : k = 15 → isR d' := by unfold okI isR isT at ho; unfold isR; dsimp only at ho; omega
  clear ho
  unfold isR at hra hrb hrd
  obtain ⟨a, rfl⟩ : ∃ a : Nat, a' = a := ⟨a'.toNat, by omega⟩
  obtain ⟨bb, rfl⟩ : ∃ a : Nat, b' = a := ⟨b'.toNat, by omega⟩
  have ha : a < 24 := by omega
  have hb : bb < 24 := by omega
  have hwn : wn = ws.length := by
    obtain ⟨A, c', he, _⟩ := own_form h.words
    injection he
  obtain ⟨q, hq⟩ : ∃ q, wrap64 (r bb + c) = q := ⟨_, rfl⟩
  have h0 : Un (touch b b tv (.slice wA wn wc)) w w := Un.refl _ _
  have hlt := h.lt
  have ga := h.get ha
  have gb := h.get hb
  have fa := h.box.frozen (o + 2 + a)
  dsimp only at ga gb
  by_cases hrange : q < 0 ∨ (wn : Int) ≤ q
  · have hs1 : (s', E) = (⟨p + 1, r, ws, t⟩, 2) := by
      rw [← hs]; exact stp_out hk hq (by dsimp only; omega)
    injection hs1 with hs1 hs2
    subst hs1 hs2
    have HTH := Lib.hid h
    have HQ := Lib.hid hq
    clear hs hwn h
    by_cases hneg : q < 0
    · go_enter Tryz.func74, Tryz.ntmps74
      go_wp2
      refine region_two [0, 1, 2, 3, 4, 5, 6, 7, 8, 9, 10] [] (by kernel_rfl) (by kernel_rfl) ?_
      simp only [pick, List.map_cons, List.map_nil, List.getD_cons_zero, List.getD_cons_succ]
      go_wp2
      go_ret
      exact ⟨rfl, (HTH.out.alloc _).drewN _, (h0.alloc _).drewN _⟩
    · have hge : (wn : Int) ≤ q := by omega
      go_enter Tryz.func74, Tryz.ntmps74
      go_wp2
      refine region_two [0, 1, 2, 3, 4, 5, 6, 7, 8, 9, 10] [] (by kernel_rfl) (by kernel_rfl) ?_
      simp only [pick, List.map_cons, List.map_nil, List.getD_cons_zero, List.getD_cons_succ]
      go_wp2
      go_ret
      exact ⟨rfl, (HTH.out.alloc _).drewN _, (h0.alloc _).drewN _⟩
  · obtain ⟨qn, rfl⟩ : ∃ qn : Nat, q = qn := ⟨q.toNat, by omega⟩
    have hqn : qn < wn := by omega
    have hqs : qn < ws.length := by omega
    obtain ⟨g, wc', x, he, hBg, hgs, hgb, gx, HX, fx⟩ := h.some (q := qn) hqs
    injection he with he1 he2 he3
    subst he1 he3
    have hrange' : ¬ (wrap64 (r (bb : Int) + c) < 0 ∨ (ws.length : Int) ≤ wrap64 (r (bb : Int) + c)) := by rw [hq, ← hwn]; omega
    have hgetD : ws[qn]?.getD 0 = x := by rw [HX.out]; rfl
    clear hrange
    rcases hk with rfl | rfl | rfl
    · have hs1 : (s', E) = (⟨p + 1, upd r a x, ws, t⟩, 0) := by
        rw [← hs]; exact stp_13 hq HX.out
      injection hs1 with hs1 hs2
      subst hs1 hs2
      have HTH := Lib.hid h
      clear hs hwn h hgetD hrange' he2
      go_enter Tryz.func74, Tryz.ntmps74
      go_wp2
      refine region_two [0, 1, 2, 3, 4, 5, 6, 7, 8, 9, 10] [] (by kernel_rfl) (by kernel_rfl) ?_
      simp only [pick, List.map_cons, List.map_nil, List.getD_cons_zero, List.getD_cons_succ]
      go_wp2
      refine region_two [0, 1, 2, 3, 4, 5, 6, 7, 8, 9] [10] (by kernel_rfl) (by kernel_rfl) ?_
      simp only [pick, List.map_cons, List.map_nil, List.getD_cons_zero, List.getD_cons_succ]
      go_wp2
      go_ret
      exact ⟨rfl, ((HTH.out.reg ha x).alloc _).drew.drew, ((un_at h0 touch_b _ _).alloc _).drew.drew⟩
    · have hs1 : (s', E) = (⟨p + 1, r, ws.set qn (r a), t⟩, 0) := by
        rw [← hs]; exact stp_14 hq hqs
      injection hs1 with hs1 hs2
      subst hs1 hs2
      have HTH := Lib.hid h
      clear hs hwn h hgetD hrange' he2
      go_enter Tryz.func74, Tryz.ntmps74
      go_wp2
      refine region_two [0, 1, 2, 3, 4, 5, 6, 7, 8, 9, 10] [] (by kernel_rfl) (by kernel_rfl) ?_
      simp only [pick, List.map_cons, List.map_nil, List.getD_cons_zero, List.getD_cons_succ]
      go_wp2
      refine region_two [0, 1, 2, 3, 4, 5, 6, 7, 8, 9] [10] (by kernel_rfl) (by kernel_rfl) ?_
      simp only [pick, List.map_cons, List.map_nil, List.getD_cons_zero, List.getD_cons_succ]
      go_wp2
      go_ret
      exact ⟨rfl, ((HTH.out.word rfl (r a)).alloc _).drew.drew, ((un_at h0 touch_w _ _).alloc _).drew.drew⟩
    · have hd := hrd rfl
      obtain ⟨d, rfl⟩ : ∃ a : Nat, d' = a := ⟨d'.toNat, by omega⟩
      have hd24 : d < 24 := by omega
      have gd := h.get hd24
      dsimp only at gd
      by_cases hsame : x = r d
      · have hs1 : (s', E) = (⟨p + 1, upd r a 1, ws.set qn (r a), t⟩, 0) := by
          rw [← hs]; exact stp_15t hq HX.out hsame
        injection hs1 with hs1 hs2
        subst hs1 hs2
        have HTH := Lib.hid h
        have hv : (x == r (d : Int)) = true := by simp [hsame]
        have HSM := Lib.hid hsame
        clear hs hwn h hgetD hrange' he2 hsame hd hrd
        go_enter Tryz.func74, Tryz.ntmps74
        go_wp2
        refine region_two [0, 1, 2, 3, 4, 5, 6, 7, 8, 9, 10] [] (by kernel_rfl) (by kernel_rfl) ?_
        simp only [pick, List.map_cons, List.map_nil, List.getD_cons_zero, List.getD_cons_succ]
        go_wp2
        refine region_two [0, 1, 2, 3, 4, 5, 6, 7, 8, 9, 10, 11, 12] [] (by kernel_rfl) (by kernel_rfl) ?_
        simp only [pick, List.map_cons, List.map_nil, List.getD_cons_zero, List.getD_cons_succ]
        go_wp2
        refine region_two [0, 1, 2, 3, 4, 5, 6, 7, 8, 9] [10] (by kernel_rfl) (by kernel_rfl) ?_
        simp only [pick, List.map_cons, List.map_nil, List.getD_cons_zero, List.getD_cons_succ]
        go_wp2
        refine region_first [0, 1, 2, 3, 5, 6] (.cons 4 (seq [7] (seq [8] .nil))) (by kernel_rfl) (by kernel_rfl) ?_
        simp only [pick, List.map_cons, List.map_nil, List.getD_cons_zero, List.getD_cons_succ]
        go_wp2
        refine ord_call (by kernel_rfl) ?_
        simp only [pick, List.map_cons, List.map_nil, List.getD_cons_zero, List.getD_cons_succ]
        go_wp2_with (go_at_call 83; refine (vm_truth true _).mono ?_; rintro e w' ⟨rfl, rfl⟩)
        refine ord_more [7] (seq [8] .nil) (by kernel_rfl) ?_
        simp only [pick, List.map_cons, List.map_nil, List.getD_cons_zero, List.getD_cons_succ]
        go_wp2
        refine ord_last [8] (by kernel_rfl) ?_
        simp only [pick, List.map_cons, List.map_nil, List.getD_cons_zero, List.getD_cons_succ]
        go_wp2
        go_ret
        exact ⟨rfl, (((HTH.out.word rfl (r a)).reg ha 1).alloc _).drew.drew.drew.drew, ((un_at (un_at h0 touch_w _ _) touch_b _ _).alloc _).drew.drew.drew.drew⟩
      · have hs1 : (s', E) = (⟨p + 1, upd r a 0, ws, t⟩, 0) := by
          rw [← hs]; exact stp_15f hq HX.out hsame
        injection hs1 with hs1 hs2
        subst hs1 hs2
        have HTH := Lib.hid h
        have hv : (x == r (d : Int)) = false := by simp [hsame]
        have HSM := Lib.hid hsame
        clear hs hwn h hgetD hrange' he2 hsame hd hrd
        go_enter Tryz.func74, Tryz.ntmps74
        go_wp2
        refine region_two [0, 1, 2, 3, 4, 5, 6, 7, 8, 9, 10] [] (by kernel_rfl) (by kernel_rfl) ?_
        simp only [pick, List.map_cons, List.map_nil, List.getD_cons_zero, List.getD_cons_succ]
        go_wp2
        refine region_two [0, 1, 2, 3, 4, 5, 6, 7, 8, 9, 10, 11, 12] [] (by kernel_rfl) (by kernel_rfl) ?_
        simp only [pick, List.map_cons, List.map_nil, List.getD_cons_zero, List.getD_cons_succ]
        go_wp2
        refine region_first [0, 1, 2, 3, 5, 6] (.cons 4 (seq [7] (seq [8] .nil))) (by kernel_rfl) (by kernel_rfl) ?_
        simp only [pick, List.map_cons, List.map_nil, List.getD_cons_zero, List.getD_cons_succ]
        go_wp2
        refine ord_call (by kernel_rfl) ?_
        simp only [pick, List.map_cons, List.map_nil, List.getD_cons_zero, List.getD_cons_succ]
        go_wp2_with (go_at_call 83; refine (vm_truth false _).mono ?_; rintro e w' ⟨rfl, rfl⟩)
        refine ord_more [7] (seq [8] .nil) (by kernel_rfl) ?_
        simp only [pick, List.map_cons, List.map_nil, List.getD_cons_zero, List.getD_cons_succ]
        go_wp2
        refine ord_last [8] (by kernel_rfl) ?_
        simp only [pick, List.map_cons, List.map_nil, List.getD_cons_zero, List.getD_cons_succ]
        go_wp2
        go_ret
        exact ⟨rfl, ((HTH.out.reg ha 0).alloc _).drew.drew.drew, ((un_at h0 touch_b _ _).alloc _).drew.drew.drew⟩
end Go.Proofs.YtnchgdjdfhfedaaGreatDoor

set_option linter.unusedSimpArgs false
set_option linter.unusedVariables false
namespace Go.Proofs.YtnchgdjdfhfedaaGreatDoor
open Go.RowKit Go.Ord Go.Baro

/-- What a run leaves. -/
def RnPost (T W : List Int) (N : Nat) (E : Int) (w : World) (e : Ending) (w' : World) : Prop := ∃ A1 n1 c1 A2 n2 c2, e = .returned (.tuple #[.slice A1 n1 c1, .slice A2 n2 c2, .int .i64 N, .int .i64 E]) ∧ RI w' w'.heap.size .i64 A1 n1 T ∧ RI w' w'.heap.size .i64 A2 n2 W ∧
  n1 ≤ c1 ∧ n2 ≤ c2 ∧ n1 ≤ 200 ∧ n2 ≤ 200 ∧ Below w.heap.size w w'

/-- How far a run has come. -/
def Prog (l : List Ins) (L j : Nat) (s0 s : Vs) (E : Int) : Prop := (E = 0 ∧ Ok l.length s ∧ rn l L s0 = ((rn l (L - j) s).1, (rn l (L - j) s).2.1 + j, (rn l (L - j) s).2.2)) ∨ (E ≠ 0 ∧ s.t.length ≤ 200 ∧ s.w.length ≤ 200 ∧ rn l L s0 = (s, j, E))
theorem prog_end {l : List Ins} {L j : Nat} {s0 s : Vs} (h : Prog l L j s0 s 0) (hp : s.p = l.length) : rn l L s0 = (s, j, 0) := by
  rcases h with ⟨_, _, h⟩ | ⟨h, _⟩
  · rw [h, rn_end hp]; simp
  · exact absurd rfl h
theorem prog_over {l : List Ins} {j : Nat} {s0 s : Vs} (h : Prog l j j s0 s 0) (hp : s.p ≠ l.length) : rn l j s0 = (s, j, 11) := by
  rcases h with ⟨_, _, h⟩ | ⟨h, _⟩
  · rw [h, Nat.sub_self, rn_over hp]; simp
  · exact absurd rfl h
theorem prog_step {l : List Ins} {L j : Nat} {s0 s s' : Vs} {o : Ins} {E : Int} (h : Prog l L j s0 s 0) (hj : j < L) (hp : s.p ≠ l.length) (ho : l[s.p.toNat]? = some o) (hs : stp l.length o s = (s', E)) (hok : okI l.length o) (hi : inI o) : Prog l L (j + 1) s0 s' E := by
  rcases h with ⟨_, hk, h⟩ | ⟨h, _⟩
  · have hk' := stp_ok hok hi hk (by have := hk.hi; omega)
    rw [hs] at hk'
    rw [show L - j = (L - (j + 1)) + 1 by omega] at h
    by_cases hE : E = 0
    · subst hE
      rw [rn_step hp ho hs] at h
      exact .inl ⟨rfl, hk', by rw [h]; simp only [Prod.mk.injEq, and_true, true_and]; omega⟩
    · rw [rn_err hp ho hs hE] at h
      exact .inr ⟨hE, hk'.tl, hk'.wl, by rw [h]; simp only [Prod.mk.injEq, and_true, true_and]; omega⟩
  · exact absurd rfl h
theorem prog_err {l : List Ins} {L j : Nat} {s0 s : Vs} {E : Int} (h : Prog l L j s0 s E) (hE : E ≠ 0) : rn l L s0 = (s, j, E) ∧ s.t.length ≤ 200 ∧ s.w.length ≤ 200 := by
  rcases h with ⟨h, _⟩ | ⟨_, h1, h2, h⟩
  · exact absurd h hE
  · exact ⟨h, h1, h2⟩
theorem prog_ok {l : List Ins} {L j : Nat} {s0 s : Vs} (h : Prog l L j s0 s 0) : Ok l.length s := by
  rcases h with ⟨_, h, _⟩ | ⟨h, _⟩
  · exact h
  · exact absurd rfl h

/-- How far a run has come: an error has ended the call. -/
def ProgC (l : List Ins) (L j : Nat) (s0 s : Vs) (E : Int) : Prop := (E = 0 ∧ Ok l.length s ∧ rn l L s0 = ((rn l (L - j) s).1, (rn l (L - j) s).2.1 + j, (rn l (L - j) s).2.2)) ∨ (E ≠ 0 ∧ s.p = l.length ∧ s.t.length ≤ 200 ∧ s.w.length ≤ 200 ∧ ∃ p, rn l L s0 = ({ s with p := p }, j, E))
/-- The state behind an instruction: an error ends the call. -/
def aft (n : Nat) (E : Int) (s : Vs) : Vs := { s with p := if E = 0 then s.p else n }
theorem aft_ok (n : Nat) (s : Vs) : aft n 0 s = s := rfl
theorem aft_err {n : Nat} {E : Int} (h : E ≠ 0) (s : Vs) : aft n E s = { s with p := n } := by unfold aft; rw [if_neg h]
theorem progc_end {l : List Ins} {L j : Nat} {s0 s : Vs} {E : Int} (h : ProgC l L j s0 s E) (hp : s.p = l.length) : ∃ p, rn l L s0 = ({ s with p := p }, j, E) := by
  rcases h with ⟨h0, _, h⟩ | ⟨_, _, _, _, h⟩
  · rw [h, rn_end hp, h0]; exact ⟨s.p, by simp⟩
  · exact h
theorem progc_zero {l : List Ins} {L j : Nat} {s0 s : Vs} {E : Int} (h : ProgC l L j s0 s E) (hp : s.p ≠ l.length) : E = 0 := by
  rcases h with ⟨h, _⟩ | ⟨_, h, _⟩
  · exact h
  · exact absurd h hp
theorem progc_over {l : List Ins} {j : Nat} {s0 s : Vs} (h : ProgC l j j s0 s 0) (hp : s.p ≠ l.length) : rn l j s0 = (s, j, 11) := by
  rcases h with ⟨_, _, h⟩ | ⟨h, _⟩
  · rw [h, Nat.sub_self, rn_over hp]; simp
  · exact absurd rfl h
theorem progc_step {l : List Ins} {L j : Nat} {s0 s s' : Vs} {o : Ins} {E : Int} (h : ProgC l L j s0 s 0) (hj : j < L) (hp : s.p ≠ l.length) (ho : l[s.p.toNat]? = some o) (hs : stp l.length o s = (s', E)) (hok : okI l.length o) (hi : inI o) : ProgC l L (j + 1) s0 (aft l.length E s') E := by
  rcases h with ⟨_, hk, h⟩ | ⟨h, _⟩
  · have hk' := stp_ok hok hi hk (by have := hk.hi; omega)
    rw [hs] at hk'
    rw [show L - j = (L - (j + 1)) + 1 by omega] at h
    by_cases hE : E = 0
    · subst hE
      rw [rn_step hp ho hs] at h
      exact .inl ⟨rfl, hk', by rw [h, aft_ok]; simp only [Prod.mk.injEq, and_true, true_and]; omega⟩
    · rw [rn_err hp ho hs hE] at h
      rw [aft_err hE]
      exact .inr ⟨hE, rfl, hk'.tl, hk'.wl, s'.p, by rw [h]; simp only [Prod.mk.injEq, and_true, true_and]; omega⟩
  · exact absurd rfl h
theorem progc_len {l : List Ins} {L j : Nat} {s0 s : Vs} {E : Int} (h : ProgC l L j s0 s E) : s.t.length ≤ 200 ∧ s.w.length ≤ 200 := by
  rcases h with ⟨_, h, _⟩ | ⟨_, _, h1, h2, _⟩
  · exact ⟨h.tl, h.wl⟩
  · exact ⟨h1, h2⟩
theorem progc_ok {l : List Ins} {L j : Nat} {s0 s : Vs} (h : ProgC l L j s0 s 0) : Ok l.length s := by
  rcases h with ⟨_, h, _⟩ | ⟨h, _⟩
  · exact h
  · exact absurd rfl h

end Go.Proofs.YtnchgdjdfhfedaaGreatDoor
