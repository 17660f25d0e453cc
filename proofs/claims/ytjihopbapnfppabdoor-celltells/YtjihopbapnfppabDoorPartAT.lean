/- Of this claim's own texts these, one behind the other: Asm3, VmPure2, Vm1, Vm2, VmMem. No statement of the seat is proved here; no condition but those that stand at the theorems. -/
import Derived.Test.YtjihopbapnfppabDoorPartAS
import Derived.Test.YtjihopbapnfppabDoorPartAA
import Derived.Test.YtjihopbapnfppabDoorPartAG
import Derived.Test.YtjihopbapnfppabDoorPartAE
import Derived.Laws.Tables
import Derived.Laws.OwnMore
set_option linter.unusedSimpArgs false
set_option linter.unusedVariables false
namespace Go.Proofs.YtjihopbapnfppabDoor
open Go.RowKit Go.Ord Go.Baro Go.Maps

/-- A slice of names. -/
def QN (w : World) (A : Option Addr) (n : Nat) (xs : List Nm) : Prop := QT w 9 1 A n (xs.map nmV)
theorem QN.kc {w w' : World} {A : Option Addr} {n : Nat} {xs : List Nm} (h : QN w A n xs) (hk : Kc tAsm w w') : QN w' A n xs := QT.kc h hk tAsm_str
theorem QN.len {w : World} {A : Option Addr} {n : Nat} {xs : List Nm} (h : QN w A n xs) : xs.length = n := by have := h.1; simpa using this
theorem QN.val {w : World} {A : Option Addr} {n : Nat} {xs : List Nm} (h : QN w A n xs) {i : Nat} (hi : i < n) : ∃ b o l, A = some ⟨b, o, none⟩ ∧ b < w.heap.size ∧ w.cell? ⟨b, o + i, none⟩ = some (nmV l) ∧ Hid (xs[i]? = some l) := by
  obtain ⟨b, o, cur, fr, hA, hb, hc⟩ := h.2 (by omega)
  have hl : i < xs.length := by rw [h.len]; exact hi
  refine ⟨b, o, xs[i], hA, lt_of_heap hb, ?_, List.getElem?_eq_getElem hl⟩
  rw [hc i (by omega)]
  simp [hl]
set_option maxHeartbeats 1000000 in
theorem asm_Label (w : World) (B b n : Nat) (s : Bs) (l : Nm) (h : BdAt w B b s n) (hn : n < 100000) (hl : l.length ≤ 1000) (ha : nmAsk s.labs l = none) :
    Calls Tryd.prog 39 #[.pointer (some ⟨b, 0, none⟩), nmV l] w fun e w' => e = .returned (.tuple #[]) ∧ AsmPost w B b (s.lab l) (n + 1) w' := by
  obtain ⟨cv, jv, rm, lm, h⟩ := h
  have hlt := h.lt
  have hB := h.hB
  have hbn : s.code.length ≤ n := h.bnd.1
  obtain ⟨A, c, rfl, hlc⟩ := own_form h.code
  have c0 : w.cell? ⟨b, 0, none⟩ = some (.slice A s.code.length c) := h.box.cell 0
  have c2 : w.cell? ⟨b, 2, none⟩ = some (.map (some lm)) := h.box.cell 2
  obtain ⟨m, hm⟩ : ∃ m, m = s.code.length := ⟨_, rfl⟩
  rw [← hm] at c0 hbn hlc
  have HM := Lib.hid hm
  have HB := Lib.hid h
  have HA := Lib.hid ha
  clear ha h hm
  go_enter Tryd.func39, Tryd.ntmps39
  go_wp2_with (refine wp_lookN rfl (.tmp 10) (.tmp 11) rfl lm n s.labs l rfl HB.out.labs rfl hl none HA.out ?_)
  refine region_two [0, 1, 2, 3, 4, 5, 6, 7, 8, 9] [10] (by kernel_rfl) (by kernel_rfl) ?_
  simp only [pick, List.map_cons, List.map_nil, List.getD_cons_zero, List.getD_cons_succ]
  go_wp2_with (refine wp_updS rfl rfl (.tmp 22) (.tmp 23) (.tmp 28) rfl lm n s.labs l _ rfl (by exact HB.out.drew.labs) rfl rfl hl (by unfold inW; omega) (by omega) HA.out ?_; intro w1 HMS hg1)
  refine bodyPost_end (v := .tuple #[]) (results_noneA rfl _ _) rfl ?_
  rw [HM.out] at HMS
  have hg2 : w.grownBy w1 (some lm) := ⟨hg1.os, hg1.tape, hg1.output, hg1.size, hg1.block⟩
  exact ⟨rfl, ⟨_, _, _, _, HB.out.labelled HMS.out hg2⟩, kc_mapL HB.out.labs hg2, (Below.refl B w).grown hg2 hB (fun k hk => by injection hk with hk; subst hk; exact HB.out.low.2.2.1)⟩
set_option maxHeartbeats 1000000 in
theorem asm_Emit (w : World) (B b n : Nat) (s : Bs) (A : Option Addr) (m c : Nat) (xs : List Nm) (h : BdAt w B b s n) (hn : n < 50000) (hx : QN w A m xs) (hm : m ≤ 1000) (hl : ∀ x ∈ xs, x.length ≤ 1000) :
    Calls Tryd.prog 31 #[.pointer (some ⟨b, 0, none⟩), .slice A m c] w fun e w' => e = .returned (.tuple #[]) ∧ AsmPost w B b (s.emit xs) (n + 2 * m) w' := by
  have HX := Lib.hid hx
  have HH := Lib.hid h
  have HL := Lib.hid hl
  clear hx h hl
  go_enter Tryd.func31, Tryd.ntmps31
  go_wp2
  go_loopw [8] (fun i wr => ∃ j : Nat, j ≤ m ∧ i = .int .i64 j ∧ Hid (AsmPost w B b (s.emit (xs.take j)) (n + 2 * j) wr)) (fun i _ => m - (intOf i).toNat)
  case atStart => exact ⟨0, Nat.zero_le _, rfl, HH.out, Kc.refl _ _, Below.refl _ _⟩
  case round =>
    obtain ⟨j, hj, rfl, HP⟩ := hrel
    by_cases h1 : j < m
    · obtain ⟨g, o, l, rfl, hgB, hcell, HXL⟩ := (HX.out.kc HP.out.2.1).val h1
      go_wp2_with fail
      refine (asm_register _ B b (n + 2 * j) (s.emit (xs.take j)) l HP.out.1 (by omega) (HL.out l (List.mem_of_getElem? HXL.out))).mono ?_
      rintro e w1 ⟨rfl, H⟩
      have H1 := Lib.hid H
      clear H
      go_wp2_with fail
      refine (asm_append _ B b (n + 2 * j + 1) ((s.emit (xs.take j)).rg l).1 ⟨16, ((s.emit (xs.take j)).rg l).2, 0, 0, 0⟩ H1.out.1 (by omega)).mono ?_
      rintro e w2 ⟨rfl, H⟩
      have H2 := Lib.hid H
      clear H
      go_wp2
      go_roundw
      case rel =>
        refine ⟨j + 1, by omega, by go_num, ?_⟩
        have := (HP.out.trans H1.out).trans H2.out
        rw [at_take HXL.out]
        unfold Bs.emit at *
        rw [List.foldl_append, show n + 2 * (j + 1) = n + 2 * j + 1 + 1 by omega]
        exact this
      case measure => simp [intOf]; omega
    · obtain rfl : j = m := by omega
      go_wp2
      refine bodyPost_end (v := .tuple #[]) (results_noneA rfl _ _) rfl ?_
      have := HP.out
      rw [List.take_of_length_le (by rw [HX.out.len]; exact Nat.le_refl _)] at this
      exact ⟨rfl, this⟩
/-- A builder that has just been made. -/
theorem bd_made (w : World) (v : Value) (hv : v = .slice none 0 0) : BdAt ((((w.alloc (.map #[] 0)).alloc (.map #[] 0)).alloc (.cells #[.slice none 0 0, .map (some w.heap.size), .map (some (w.heap.size + 1)), .slice none 0 0, .bool false] 77))) w.heap.size (w.heap.size + 2) ⟨[], [], [], [], false⟩ 0 := by
  refine ⟨.slice none 0 0, .slice none 0 0, w.heap.size, w.heap.size + 1, ?_, World.ownsRow_nil _ _ _ _, World.ownsRow_nil _ _ _ _, ?_, ?_, ⟨by omega, by omega, by omega, by omega⟩, ⟨Nat.le_refl _, Nat.le_refl _, Nat.le_refl _⟩⟩
  · have := Box.newAt ((w.alloc (.map #[] 0)).alloc (.map #[] 0)) 77 [.slice none 0 0, .map (some w.heap.size), .map (some (w.heap.size + 1)), .slice none 0 0, .bool false] (w.heap.size + 2) (by simp)
    exact this
  · exact ((MS.made w).kept (World.grownBy_alloc _ _ none) (by simp)).kept (World.grownBy_alloc _ _ none) (by simp)
  · have := MS.made (w.alloc (.map #[] 0))
    rw [show (w.alloc (.map #[] 0)).heap.size = w.heap.size + 1 by simp] at this
    exact this.kept (World.grownBy_alloc _ _ none) (by simp)
set_option maxHeartbeats 1000000 in
theorem asm_New (w : World) (A : Option Addr) (m c : Nat) (xs : List Nm) (hx : QN w A m xs) (hm : m ≤ 1000) (hl : ∀ x ∈ xs, x.length ≤ 1000) (hd : ∀ (j : Nat) l, xs[j]? = some l → nmAsk (Bs.new (xs.take j)).regs l = none) :
    Calls Tryd.prog 21 #[.slice A m c] w fun e w' => ∃ b, e = .returned (.pointer (some ⟨b, 0, none⟩)) ∧ AsmPost w w.heap.size b (Bs.new xs) m w' := by
  have HX := Lib.hid hx
  have HL := Lib.hid hl
  have HD := Lib.hid hd
  have HB0 := Lib.hid (bd_made w (.slice none 0 0) rfl)
  have h0 := ((((Below.refl w.heap.size w).alloc (Nat.le_refl _) (.map #[] 0)).alloc (by simp) (.map #[] 0)).alloc (by simp; omega) (.cells #[.slice none 0 0, .map (some w.heap.size), .map (some (w.heap.size + 1)), .slice none 0 0, .bool false] 77))
  clear hx hl hd
  have hmm := @run_makeMap Tryd.prog
  go_enter Tryd.func21, Tryd.ntmps21
  go_wp2
  go_loopw [14] (fun i wr => ∃ j : Nat, j ≤ m ∧ i = .int .i64 j ∧ Hid (AsmPost w w.heap.size (w.heap.size + 2) (Bs.new (xs.take j)) j wr)) (fun i _ => m - (intOf i).toNat)
  case atStart => exact ⟨0, Nat.zero_le _, rfl, HB0.out, Kc.below h0, h0⟩
  case round =>
    obtain ⟨j, hj, rfl, HP⟩ := hrel
    by_cases h1 : j < m
    · obtain ⟨g, o, l, rfl, hgB, hcell, HXL⟩ := (HX.out.kc HP.out.2.1).val h1
      obtain ⟨cv, jv, rm, lm, hb⟩ := HP.out.1
      have c1 : wr.cell? ⟨w.heap.size + 2, 1, none⟩ = some (.map (some rm)) := hb.box.cell 1
      have hlt := hb.lt
      have HBD := Lib.hid hb
      have HDL := Lib.hid (HD.out j l HXL.out)
      clear hb
      go_wp2_with (refine wp_lookN rfl (.tmp 22) (.tmp 23) rfl rm j (Bs.new (xs.take j)).regs l rfl HBD.out.regs rfl (HL.out l (List.mem_of_getElem? HXL.out)) none HDL.out ?_)
      refine (asm_register _ _ _ j (Bs.new (xs.take j)) l HP.out.1 (by omega) (HL.out l (List.mem_of_getElem? HXL.out))).mono ?_
      rintro e w1 ⟨rfl, H⟩
      have H1 := Lib.hid H
      clear H
      go_wp2
      go_roundw
      case rel =>
        refine ⟨j + 1, by omega, by go_num, ?_⟩
        have := HP.out.trans H1.out
        rw [at_take HXL.out]
        unfold Bs.new at *
        rw [List.foldl_append]
        exact this
      case measure => simp [intOf]; omega
    · obtain rfl : j = m := by omega
      go_wp2
      go_ret
      have := HP.out
      rw [List.take_of_length_le (by rw [HX.out.len]; exact Nat.le_refl _)] at this
      exact ⟨_, rfl, this⟩
end Go.Proofs.YtjihopbapnfppabDoor

set_option linter.unusedSimpArgs false
set_option linter.unusedVariables false
namespace Go.Proofs.YtjihopbapnfppabDoor
open Go.Baro

/-- A field that is possible as an operand of this sort. -/
def alw (o n : Int) (len : Nat) : Prop := if o = 1 then 0 ≤ n ∧ n < 24 else if o = 2 then 0 ≤ n ∧ n ≤ len else if o = 3 then True else n = 0
theorem okI_row {len k : Nat} {a b c d A B C D : Int} (hk : 1 ≤ k) (h : tabRows[k]? = some (a, b, c, d)) : okI len ⟨k, A, B, C, D⟩ ↔ alw a A len ∧ alw b B len ∧ alw c C len ∧ alw d D len := by
  have h18 : k < 18 := (List.getElem?_eq_some_iff.1 h).1
  rcases (by omega : k = 1 ∨ k = 2 ∨ k = 3 ∨ k = 4 ∨ k = 5 ∨ k = 6 ∨ k = 7 ∨ k = 8 ∨ k = 9 ∨ k = 10 ∨ k = 11 ∨ k = 12 ∨ k = 13 ∨ k = 14 ∨ k = 15 ∨ k = 16 ∨ k = 17) with rfl | rfl | rfl | rfl | rfl | rfl | rfl | rfl | rfl | rfl | rfl | rfl | rfl | rfl | rfl | rfl | rfl <;>
    (simp [tabRows] at h; obtain ⟨rfl, rfl, rfl, rfl⟩ := h; simp [okI, alw, isR, isT])
theorem row_small {k : Nat} {a b c d : Int} (h : tabRows[k]? = some (a, b, c, d)) : (0 ≤ a ∧ a ≤ 3) ∧ (0 ≤ b ∧ b ≤ 3) ∧ (0 ≤ c ∧ c ≤ 3) ∧ (0 ≤ d ∧ d ≤ 3) := by
  have hm := List.mem_of_getElem? h
  have : ∀ r ∈ tabRows, (0 ≤ r.1 ∧ r.1 ≤ 3) ∧ (0 ≤ r.2.1 ∧ r.2.1 ≤ 3) ∧ (0 ≤ r.2.2.1 ∧ r.2.2.1 ≤ 3) ∧ (0 ≤ r.2.2.2 ∧ r.2.2.2 ≤ 3) := by decide
  exact this _ hm
theorem row_at {k : Nat} (h : k < 18) : ∃ a b c d, tabRows[k]? = some (a, b, c, d) := by
  have : k < tabRows.length := h
  exact ⟨_, _, _, _, List.getElem?_eq_getElem this⟩
theorem okI_kind {len : Nat} {o : Ins} (h : okI len o) : 1 ≤ o.k ∧ o.k ≤ 17 := by unfold okI at h; omega
end Go.Proofs.YtjihopbapnfppabDoor

set_option linter.unusedSimpArgs false
set_option linter.unusedVariables false
namespace Go.Proofs.YtjihopbapnfppabDoor
open Go.RowKit Go.Ord Go.Baro

theorem vm_truth (b : Bool) (w : World) : Calls Tryd.prog 79 #[.bool b] w fun e w' => e = .returned (.int .i64 (if b then 1 else 0)) ∧ w = w' := by
  cases b with
  | false =>
    go_enter Tryd.func79, Tryd.ntmps79
    go_wp2
    go_ret
    exact ⟨rfl, rfl⟩
  | true =>
    go_enter Tryd.func79, Tryd.ntmps79
    go_wp2
    go_ret
    exact ⟨rfl, rfl⟩

set_option maxHeartbeats 1000000 in
theorem vm_allows (o n : Int) (len : Nat) (r : Bool) (w : World) (ho : 0 ≤ o ∧ o ≤ 3) (hr : r = true ↔ alw o n len) :
    Calls Tryd.prog 63 #[.int .i64 o, .int .i64 n, .int .i64 len] w fun e w' => e = .returned (.bool r) ∧ w = w' := by
  have H := Lib.hid hr
  clear hr
  rcases (by omega : o = 0 ∨ o = 1 ∨ o = 2 ∨ o = 3) with rfl | rfl | rfl | rfl
  · go_enter Tryd.func63, Tryd.ntmps63
    go_wp2
    go_ret
    refine ⟨ret_bool ?_, rfl⟩
    have := H.out
    simp [alw] at this
    cases r <;> simp at this ⊢ <;> omega
  · by_cases h : 0 ≤ n
    · go_enter Tryd.func63, Tryd.ntmps63
      go_wp2
      go_ret
      refine ⟨ret_bool ?_, rfl⟩
      have := H.out
      simp [alw] at this
      cases r <;> simp at this ⊢ <;> omega
    · go_enter Tryd.func63, Tryd.ntmps63
      go_wp2
      go_ret
      refine ⟨ret_bool ?_, rfl⟩
      have := H.out
      simp [alw] at this
      cases r <;> simp at this ⊢ <;> omega
  · by_cases h : 0 ≤ n
    · go_enter Tryd.func63, Tryd.ntmps63
      go_wp2
      go_ret
      refine ⟨ret_bool ?_, rfl⟩
      have := H.out
      simp [alw] at this
      cases r <;> simp at this ⊢ <;> omega
    · go_enter Tryd.func63, Tryd.ntmps63
      go_wp2
      go_ret
      refine ⟨ret_bool ?_, rfl⟩
      have := H.out
      simp [alw] at this
      cases r <;> simp at this ⊢ <;> omega
  · go_enter Tryd.func63, Tryd.ntmps63
    go_wp2
    go_ret
    refine ⟨ret_bool ?_, rfl⟩
    have := H.out
    simp [alw] at this
    simp [this]

theorem ix_row0 (a b c d : Int) (W : World) : (Instr.index 110 (.agg #[.int .i64 a, .int .i64 b, .int .i64 c, .int .i64 d]) (.int .i64 0)).run Tryd.prog W = .ok (.int .i64 a) W := by kernel_rfl
theorem ix_row1 (a b c d : Int) (W : World) : (Instr.index 110 (.agg #[.int .i64 a, .int .i64 b, .int .i64 c, .int .i64 d]) (.int .i64 1)).run Tryd.prog W = .ok (.int .i64 b) W := by kernel_rfl
theorem ix_row2 (a b c d : Int) (W : World) : (Instr.index 110 (.agg #[.int .i64 a, .int .i64 b, .int .i64 c, .int .i64 d]) (.int .i64 2)).run Tryd.prog W = .ok (.int .i64 c) W := by kernel_rfl
theorem ix_row3 (a b c d : Int) (W : World) : (Instr.index 110 (.agg #[.int .i64 a, .int .i64 b, .int .i64 c, .int .i64 d]) (.int .i64 3)).run Tryd.prog W = .ok (.int .i64 d) W := by kernel_rfl
set_option maxRecDepth 100000 in
theorem ix_row (a b c d : Int) (W : World) (j : Nat) (x : Int) (h : [a, b, c, d][j]? = some x) : (Instr.index 110 (.agg #[.int .i64 a, .int .i64 b, .int .i64 c, .int .i64 d]) (.int .i64 j)).run Tryd.prog W = .ok (.int .i64 x) W := by
  have hj : j < 4 := (List.getElem?_eq_some_iff.1 h).1
  rcases (by omega : j = 0 ∨ j = 1 ∨ j = 2 ∨ j = 3) with rfl | rfl | rfl | rfl
  · injection h with h; subst h; exact ix_row0 _ _ _ _ W
  · injection h with h; subst h; exact ix_row1 _ _ _ _ W
  · injection h with h; subst h; exact ix_row2 _ _ _ _ W
  · injection h with h; subst h; exact ix_row3 _ _ _ _ W

theorem alw_four {a b c d A B C D : Int} {len : Nat} : (alw a A len ∧ alw b B len ∧ alw c C len ∧ alw d D len) ↔ ∀ (j : Nat) (x y : Int), [a, b, c, d][j]? = some x → [A, B, C, D][j]? = some y → alw x y len := by
  constructor
  · rintro ⟨h0, h1, h2, h3⟩ j x y hx hy
    have hj : j < 4 := (List.getElem?_eq_some_iff.1 hx).1
    rcases (by omega : j = 0 ∨ j = 1 ∨ j = 2 ∨ j = 3) with rfl | rfl | rfl | rfl <;> (simp at hx hy; subst hx hy; assumption)
  · intro h
    exact ⟨h 0 _ _ rfl rfl, h 1 _ _ rfl rfl, h 2 _ _ rfl rfl, h 3 _ _ rfl rfl⟩

set_option maxRecDepth 100000 in
set_option maxHeartbeats 2000000 in
theorem vm_valid (k A B C D : Int) (len : Nat) (r : Bool) (w : World) (hT : Tab w) (hr : r = true ↔ okI len ⟨k, A, B, C, D⟩) (hlen : len ≤ 200) :
    Calls Tryd.prog 55 #[.agg #[.int .i64 k, .int .i64 A, .int .i64 B, .int .i64 C, .int .i64 D], .int .i64 len] w fun e w' => e = .returned (.bool r) ∧ Below w.heap.size w w' := by
  have h0 : Below w.heap.size w w := Below.refl _ _
  by_cases hk : 1 ≤ k ∧ k ≤ 17
  · obtain ⟨kn, rfl⟩ : ∃ kn : Nat, k = kn := ⟨k.toNat, by omega⟩
    have hk1 : 1 ≤ kn := by omega
    have hk2 : kn ≤ 17 := by omega
    clear hk
    obtain ⟨a, b, c, d, hrow⟩ := row_at (k := kn) (by omega)
    rw [okI_row hk1 hrow, alw_four] at hr
    have H := Lib.hid hr
    clear hr
    obtain ⟨sa, sb, sc, sd⟩ := row_small hrow
    obtain ⟨t0, t1, t2, t3⟩ := hT kn a b c d hrow
    have hlt := hT.lt
    have hA := (h0.alloc (Nat.le_refl _) (Obj.cells #[.int .i64 kn, .int .i64 A, .int .i64 B, .int .i64 C, .int .i64 D] 65)).alloc (by simp) (Obj.cells #[.int .i64 A, .int .i64 B, .int .i64 C, .int .i64 D] 108)
    have HS := Lib.hid (show ∀ x ∈ [a, b, c, d], 0 ≤ x ∧ x ≤ 3 by simp; exact ⟨sa, sb, sc, sd⟩)
    clear hrow hT sa sb sc sd
    have bx := Box.newAt (w.alloc (Obj.cells #[.int .i64 kn, .int .i64 A, .int .i64 B, .int .i64 C, .int .i64 D] 65)) 108 [.int .i64 A, .int .i64 B, .int .i64 C, .int .i64 D] (w.heap.size + 1) (by simp)
    go_enter Tryd.func55, Tryd.ntmps55
    go_wp2
    clear t0 t1 t2 t3
    go_loop [29] (fun i => ∃ j : Nat, j ≤ 4 ∧ i = .int .i64 j ∧ Hid (∀ (q : Nat) (x y : Int), q < j → [a, b, c, d][q]? = some x → [A, B, C, D][q]? = some y → alw x y len)) (fun i => 4 - (intOf i).toNat)
    case atStart => exact ⟨0, Nat.zero_le _, rfl, fun q x y hq => absurd hq (by omega)⟩
    case round =>
      obtain ⟨j, hj, rfl, HC⟩ := hrel
      by_cases hj4 : j < 4
      · obtain ⟨x, hx⟩ : ∃ x, [a, b, c, d][j]? = some x := ⟨_, List.getElem?_eq_getElem (by simpa using hj4)⟩
        obtain ⟨y, hy⟩ : ∃ y, [A, B, C, D][j]? = some y := ⟨_, List.getElem?_eq_getElem (by simpa using hj4)⟩
        have hix := fun W => ix_row a b c d W j x hx
        have hcy : ((w.alloc (Obj.cells #[.int .i64 kn, .int .i64 A, .int .i64 B, .int .i64 C, .int .i64 D] 65)).alloc (Obj.cells #[.int .i64 A, .int .i64 B, .int .i64 C, .int .i64 D] 108)).cell? ⟨w.heap.size + 1, j, none⟩ = some (.int .i64 y) := by
          have := bx.cell j
          rw [show ([.int .i64 A, .int .i64 B, .int .i64 C, .int .i64 D] : List Value) = [A, B, C, D].map (Value.int .i64) from rfl, List.getElem?_map, hy] at this
          exact this
        have hsx := HS.out x (List.mem_of_getElem? hx)
        have HX := Lib.hid hx
        have HY := Lib.hid hy
        clear hx hy
        by_cases hal : alw x y len
        · have HAL := Lib.hid hal
          clear hal
          go_wp2_with fail
          refine (vm_allows x y len true _ hsx (by simp; exact HAL.out)).mono ?_
          rintro e w' ⟨rfl, rfl⟩
          go_wp2
          go_round
          case rel =>
            refine ⟨j + 1, by omega, by go_num, ?_⟩
            intro q x' y' hq hx' hy'
            by_cases hqj : q = j
            · subst hqj
              rw [HX.out] at hx'; rw [HY.out] at hy'
              injection hx' with hx'; injection hy' with hy'
              subst hx' hy'
              exact HAL.out
            · exact HC.out q x' y' (by omega) hx' hy'
          case measure => simp [intOf]; omega
        · have HAL := Lib.hid hal
          clear hal
          go_wp2_with fail
          refine (vm_allows x y len false _ hsx (by simp; exact HAL.out)).mono ?_
          rintro e w' ⟨rfl, rfl⟩
          go_wp2
          go_ret
          refine ⟨ret_bool ?_, hA⟩
          cases r with
          | false => rfl
          | true => exact absurd (H.out.1 rfl j x y HX.out HY.out) HAL.out
      · have : j = 4 := by omega
        subst this
        go_wp2
        go_ret
        refine ⟨ret_bool ?_, hA⟩
        exact (H.out.2 fun q x y hx hy => HC.out q x y (List.getElem?_eq_some_iff.1 hx).1 hx hy).symm
  · have hrf : r = false := by
      cases r with
      | false => rfl
      | true => exact absurd (okI_kind (hr.1 rfl)) hk
    subst hrf
    clear hr
    by_cases h1 : k < 1
    · go_enter Tryd.func55, Tryd.ntmps55
      go_wp2
      go_ret
      exact ⟨rfl, h0.alloc (Nat.le_refl _) _⟩
    · have h2 : 17 < k := by omega
      go_enter Tryd.func55, Tryd.ntmps55
      go_wp2
      go_ret
      exact ⟨rfl, h0.alloc (Nat.le_refl _) _⟩
end Go.Proofs.YtjihopbapnfppabDoor

set_option linter.unusedSimpArgs false
set_option linter.unusedVariables false
namespace Go.Proofs.YtjihopbapnfppabDoor
open Go.RowKit Go.Ord Go.Baro

set_option maxRecDepth 100000 in
set_option maxHeartbeats 2000000 in
theorem vm_May (l : List Ins) (A : Option Addr) (n c : Nat) (r : Bool) (w : World) (B : Nat) (hT : Tab w) (hb : RO w B A n l) (hB : B ≤ w.heap.size) (hn : n ≤ 9223372036854775807) (hr : r = true ↔ okC l) :
    Calls Tryd.prog 46 #[.slice A n c] w fun e w' => e = .returned (.bool r) ∧ Below w.heap.size w w' := by
  have HL := Lib.hid hb.len
  have H := Lib.hid hr
  clear hr
  have h0 : Below w.heap.size w w := Below.refl _ _
  have hlt := hT.lt
  by_cases hn2 : n ≤ 200
  · go_enter Tryd.func46, Tryd.ntmps46
    go_wp2
    go_loopw [10] (fun i wr => ∃ j : Nat, j ≤ n ∧ i = .int .i64 j ∧ Hid (∀ o ∈ l.take j, okI n o) ∧ Below w.heap.size w wr) (fun i _ => n - (intOf i).toNat)
    case atStart => exact ⟨0, Nat.zero_le _, rfl, by simp [Hid], h0⟩
    case round =>
      obtain ⟨j, hj, rfl, HC, hbel⟩ := hrel
      have hsz := hbel.size
      by_cases hjn : j < n
      · obtain ⟨b, o, k, x, y, z, u, rfl, hbB, c0, c1, c2, c3, c4, HX, hmem⟩ := (hb.below (hbel.mono hB)).val hjn
        have hbs : b < wr.heap.size := by omega
        have hal := hbel.alloc hsz (Obj.cells #[.int .i64 k, .int .i64 x, .int .i64 y, .int .i64 z, .int .i64 u] 65)
        by_cases hok : okI n ⟨k, x, y, z, u⟩
        · have HOK := Lib.hid hok
          clear hok
          go_wp2_with fail
          refine (vm_valid k x y z u n true _ (hT.below hal hlt) (by simp; exact HOK.out) hn2).mono ?_
          rintro e w1 ⟨rfl, hb1⟩
          go_wp2
          go_roundw
          case rel =>
            refine ⟨j + 1, by omega, by go_num, ?_, hal.trans (hb1.mono (by simp; omega))⟩
            intro q hq
            rw [at_take HX.out] at hq
            rcases List.mem_append.1 hq with hq | hq
            · exact HC.out q hq
            · rw [List.mem_singleton.1 hq]; exact HOK.out
          case measure => simp [intOf]; omega
        · have HOK := Lib.hid hok
          clear hok
          go_wp2_with fail
          refine (vm_valid k x y z u n false _ (hT.below hal hlt) (by simp; exact HOK.out) hn2).mono ?_
          rintro e w1 ⟨rfl, hb1⟩
          go_wp2
          go_ret
          refine ⟨ret_bool ?_, hal.trans (hb1.mono (by simp; omega))⟩
          cases r with
          | false => rfl
          | true =>
            have := (H.out.1 rfl).2 _ hmem
            rw [HL.out] at this
            exact absurd this HOK.out
      · go_wp2
        go_ret
        refine ⟨ret_bool ?_, hbel⟩
        refine (H.out.2 ⟨by rw [HL.out]; exact hn2, fun o ho => ?_⟩).symm
        have he := HC.out
        rw [List.take_of_length_le (by rw [HL.out]; omega)] at he
        rw [HL.out]
        exact he o ho
  · go_enter Tryd.func46, Tryd.ntmps46
    go_wp2
    go_ret
    refine ⟨ret_bool ?_, h0⟩
    cases r with
    | false => rfl
    | true =>
      have := (H.out.1 rfl).1
      rw [HL.out] at this
      omega


set_option maxHeartbeats 2000000 in
theorem vm_compute (k b c : Int) (w : World) (hk : 3 ≤ k ∧ k ≤ 9) (hc : inW c) (hb : inW b) :
    Calls Tryd.prog 73 #[.int .i64 k, .int .i64 b, .int .i64 c] w fun e w' => e = .returned (.int .i64 (cmpV k b c)) ∧ w = w' := by
  have HC := Lib.hid hc
  have HB := Lib.hid hb
  clear hc hb
  rcases (by omega : k = 3 ∨ k = 4 ∨ k = 5 ∨ k = 6 ∨ k = 7 ∨ k = 8 ∨ k = 9) with rfl | rfl | rfl | rfl | rfl | rfl | rfl
  · go_enter Tryd.func73, Tryd.ntmps73
    go_wp2
    go_ret
    exact ⟨rfl, rfl⟩
  · go_enter Tryd.func73, Tryd.ntmps73
    go_wp2
    go_ret
    exact ⟨rfl, rfl⟩
  · go_enter Tryd.func73, Tryd.ntmps73
    go_wp2
    go_ret
    exact ⟨rfl, rfl⟩
  · by_cases h : c = 0
    · subst h
      go_enter Tryd.func73, Tryd.ntmps73
      go_wp2
      go_ret
      exact ⟨rfl, rfl⟩
    · have h1 : (c == 0) = false := by simp [h]
      have h2 : (c != 0) = true := by simp [h]
      go_enter Tryd.func73, Tryd.ntmps73
      go_wp2
      go_ret
      exact ⟨ret_int (by simp [cmpV, h]), rfl⟩
  · by_cases h : c = 0
    · subst h
      go_enter Tryd.func73, Tryd.ntmps73
      go_wp2
      go_ret
      exact ⟨rfl, rfl⟩
    · have h1 : (c == 0) = false := by simp [h]
      have h2 : (c != 0) = true := by simp [h]
      have HW := Lib.hid (tmod_in (b := b) h HC.out)
      go_enter Tryd.func73, Tryd.ntmps73
      go_wp2
      go_ret
      refine ⟨ret_int ?_, rfl⟩
      have := HW.out
      unfold inW at this
      simp [cmpV, h]
      first | done | exact IntWalk.wrap64_in _ this
  · by_cases h : b = c
    · subst h
      go_enter Tryd.func73, Tryd.ntmps73
      go_wp2_with fail
      refine (vm_truth true _).mono ?_
      rintro e w1 ⟨rfl, rfl⟩
      go_wp2
      go_ret
      exact ⟨ret_int (by simp [cmpV]), rfl⟩
    · have h1 : (b == c) = false := by simp [h]
      go_enter Tryd.func73, Tryd.ntmps73
      go_wp2_with fail
      refine (vm_truth false _).mono ?_
      rintro e w1 ⟨rfl, rfl⟩
      go_wp2
      go_ret
      exact ⟨ret_int (by simp [cmpV, h]), rfl⟩
  · by_cases h : b < c
    · skip
      go_enter Tryd.func73, Tryd.ntmps73
      go_wp2_with fail
      refine (vm_truth true _).mono ?_
      rintro e w1 ⟨rfl, rfl⟩
      go_wp2
      go_ret
      exact ⟨ret_int (by simp [cmpV, h]), rfl⟩
    · skip
      go_enter Tryd.func73, Tryd.ntmps73
      go_wp2_with fail
      refine (vm_truth false _).mono ?_
      rintro e w1 ⟨rfl, rfl⟩
      go_wp2
      go_ret
      exact ⟨ret_int (by simp [cmpV, h]), rfl⟩
end Go.Proofs.YtjihopbapnfppabDoor

set_option linter.unusedSimpArgs false
set_option linter.unusedVariables false
namespace Go.Baro
open Go.RowKit

def regV (r : Int → Int) : List Value := (List.range 24).map fun i => Value.int .i64 (r (i : Nat))
/-- The cells of a thread: its code, the next instruction, the registers, what it has told. -/
def thC (cv : Value) (p : Int) (r : Int → Int) (tv : Value) : List Value := cv :: .int .i64 p :: (regV r ++ [tv])
theorem regV_len (r : Int → Int) : (regV r).length = 24 := by simp [regV]
theorem regV_at (r : Int → Int) {i : Nat} (h : i < 24) : (regV r)[i]? = some (.int .i64 (r i)) := by simp [regV, List.getElem?_map, List.getElem?_range h]
section
variable {cv tv : Value} {p : Int} {r : Int → Int}
theorem thC_len : (thC cv p r tv).length = 27 := by simp [thC, regV_len]
theorem thC_reg {i : Nat} (h : i < 24) : (thC cv p r tv)[2 + i]? = some (.int .i64 (r i)) := by
  rw [thC, show 2 + i = i + 1 + 1 by omega, List.getElem?_cons_succ, List.getElem?_cons_succ, List.getElem?_append_left (by rw [regV_len]; exact h), regV_at r h]
theorem thC_told : (thC cv p r tv)[26]? = some tv := by
  rw [thC, show 26 = 24 + 1 + 1 by rfl, List.getElem?_cons_succ, List.getElem?_cons_succ, List.getElem?_append_right (by rw [regV_len]; omega), regV_len]; rfl
theorem thC_set_p (q : Int) : (thC cv p r tv).set 1 (.int .i64 q) = thC cv q r tv := rfl
theorem regV_set {i : Nat} (h : i < 24) (v : Int) : (regV r).set i (.int .i64 v) = regV (upd r i v) := by
  refine List.ext_getElem? fun j => ?_
  rw [List.getElem?_set]
  by_cases hj : j < 24
  · rw [regV_at _ hj, regV_at _ hj, regV_len]
    by_cases hij : i = j
    · subst hij; rw [if_pos rfl, if_pos h, upd_same]
    · rw [if_neg hij, upd_other _ _ (by omega)]
  · rw [List.getElem?_eq_none (by rw [regV_len]; omega), List.getElem?_eq_none (by rw [regV_len]; omega), if_neg (by omega)]
theorem thC_set_reg {i : Nat} (h : i < 24) (v : Int) : (thC cv p r tv).set (2 + i) (.int .i64 v) = thC cv p (upd r i v) tv := by
  rw [thC, show 2 + i = i + 1 + 1 by omega, List.set_cons_succ, List.set_cons_succ, List.set_append_left _ _ (by rw [regV_len]; exact h), regV_set h]; rfl
theorem thC_set_told (u : Value) : (thC cv p r tv).set 26 u = thC cv p r u := by
  rw [thC, show 26 = 24 + 1 + 1 by rfl, List.set_cons_succ, List.set_cons_succ, List.set_append_right _ _ (by rw [regV_len]; omega), regV_len]; rfl
end

/-- The thread lies in block b; what it has told and the shared words are rows of the call's own, in two blocks from B on. -/
structure Th (T I : TypeId) (w : World) (B b : Nat) (cv tv wv : Value) (s : Vs) : Prop where
  box : Box w b T (thC cv s.p s.r tv)
  told : w.ownsRow B I 1 tv s.t.length (s.t.map (Value.int .i64))
  words : w.ownsRow B I 1 wv s.w.length (s.w.map (Value.int .i64))
  apart : wv.ownBlock = none ∨ wv.ownBlock ≠ tv.ownBlock
  ne : I ≠ T
section
variable {T I : TypeId} {w w' : World} {B b : Nat} {cv tv wv : Value} {s : Vs}
theorem Th.lt (h : Th T I w B b cv tv wv s) : b < w.heap.size := h.box.lt
theorem Th.kept (h : Th T I w B b cv tv wv s) {row : Option Nat} (hg : w.grownBy w' row) (hb : some b ≠ row) (ht : ∀ k, tv.ownBlock = some k → some k ≠ row) (hw : ∀ k, wv.ownBlock = some k → some k ≠ row) : Th T I w' B b cv tv wv s := by
  refine ⟨h.box.grown hg hb, h.told.kept hg ?_, h.words.kept hg ?_, h.apart, h.ne⟩
  · cases hv : tv.ownBlock with
    | none => exact .inl rfl
    | some k => exact .inr (ht k hv)
  · cases hv : wv.ownBlock with
    | none => exact .inl rfl
    | some k => exact .inr (hw k hv)
theorem Th.alloc (h : Th T I w B b cv tv wv s) (o : Obj) : Th T I (w.alloc o) B b cv tv wv s := h.kept (World.grownBy_alloc w o none) (by simp) (by simp) (by simp)
theorem Th.drewN (h : Th T I w B b cv tv wv s) (n : Nat) : Th T I (w.drewN n) B b cv tv wv s := ⟨h.box, h.told, h.words, h.apart, h.ne⟩
theorem Th.drew (h : Th T I w B b cv tv wv s) : Th T I w.drew B b cv tv wv s := ⟨h.box, h.told, h.words, h.apart, h.ne⟩
theorem Th.boxed (h : Th T I w B b cv tv wv s) {i : Nat} {u : Value} {q : Int} {r : Int → Int} (hs : (thC cv s.p s.r tv).set i u = thC cv q r tv) : Th T I (w.setCell ⟨b, i, none⟩ u) B b cv tv wv { s with p := q, r := r } := by
  have hg := grown_setCell w ⟨b, i, none⟩ u
  have h1 := h.box.set i u
  rw [hs] at h1
  refine ⟨h1, h.told.kept hg ?_, h.words.kept hg ?_, h.apart, h.ne⟩
  · cases hv : tv.ownBlock with
    | none => exact .inl rfl
    | some k => exact .inr fun he => by have := h.box.ne h.told h.ne; rw [hv] at this; exact this he.symm
  · cases hv : wv.ownBlock with
    | none => exact .inl rfl
    | some k => exact .inr fun he => by have := h.box.ne h.words h.ne; rw [hv] at this; exact this he.symm
theorem Th.next (h : Th T I w B b cv tv wv s) (q : Int) : Th T I (w.setCell ⟨b, 1, none⟩ (.int .i64 q)) B b cv tv wv { s with p := q } := h.boxed (thC_set_p q)
theorem Th.reg (h : Th T I w B b cv tv wv s) {i : Nat} (hi : i < 24) (v : Int) : Th T I (w.setCell ⟨b, 2 + i, none⟩ (.int .i64 v)) B b cv tv wv { s with r := upd s.r i v } := h.boxed (thC_set_reg hi v)
theorem Th.word (h : Th T I w B b cv tv wv s) {g n c q : Nat} (hv : wv = .slice (some ⟨g, 0, none⟩) n c) (v : Int) : Th T I (w.setCell ⟨g, q, none⟩ (.int .i64 v)) B b cv tv wv { s with w := s.w.set q v } := by
  subst hv
  have hl : n = s.w.length := by
    obtain ⟨A, c', he, _⟩ := own_form h.words
    injection he
  subst hl
  have hst := World.ownsRow.stored h.words q (.int .i64 v)
  refine ⟨h.box.grown hst.2 (h.box.ne h.words h.ne), h.told.kept hst.2 ?_, ?_, h.apart, h.ne⟩
  · cases ht : tv.ownBlock with
    | none => exact .inl rfl
    | some k =>
      refine .inr fun he => ?_
      rcases h.apart with ha | ha
      · cases ha
      · rw [ht] at ha; exact ha he.symm
  · have := hst.1
    rw [← List.map_set] at this
    show World.ownsRow _ _ _ _ _ (s.w.set q v).length _
    rw [List.length_set]
    exact this
/-- One number more is told: the row has grown, and the thread has it. -/
theorem Th.tell (h : Th T I w B b cv tv wv s) {v' : Value} {x : Int} {m : Nat} {o : Obj} (hg : (w.alloc o).grownBy w' tv.ownBlock) (ho : w'.ownsRow B I 1 v' m (s.t.map (Value.int .i64) ++ [.int .i64 x])) (hm : m = s.t.length + 1)
    (hb : v'.ownBlock = tv.ownBlock ∨ v'.ownBlock = some (w.alloc o).heap.size) : Box w' b T (thC cv s.p s.r tv) ∧ Th T I (w'.setCell ⟨b, 26, none⟩ v') B b cv v' wv { s with t := s.t ++ [x] } := by
  have hb1 := (h.box.alloc o).grown hg (h.box.ne h.told h.ne)
  have hg2 := grown_setCell w' ⟨b, 26, none⟩ v'
  have hw1 : w'.ownsRow B I 1 wv s.w.length (s.w.map (Value.int .i64)) := (h.words.alloc o).kept hg h.apart
  refine ⟨hb1, ?_, ?_, ?_, ?_, h.ne⟩
  · have := hb1.set 26 v'
    rw [thC_set_told] at this
    exact this
  · show World.ownsRow _ _ _ _ _ (s.t ++ [x]).length _
    rw [List.length_append, List.length_singleton, ← hm, List.map_append]
    refine ho.kept hg2 ?_
    cases hv : v'.ownBlock with
    | none => exact .inl rfl
    | some k => exact .inr fun he => by have := hb1.ne ho h.ne; rw [hv] at this; exact this he.symm
  · refine hw1.kept hg2 ?_
    cases hv : wv.ownBlock with
    | none => exact .inl rfl
    | some k => exact .inr fun he => by have := hb1.ne hw1 h.ne; rw [hv] at this; exact this he.symm
  · rcases hb with hb | hb
    · rw [hb]; exact h.apart
    · rw [hb]
      cases hv : wv.ownBlock with
      | none => exact .inl rfl
      | some k =>
        refine .inr fun he => ?_
        have := (h.words.lt _ hv).2
        injection he with he
        simp at he
        omega
theorem Th.code (h : Th T I w B b cv tv wv s) : w.cell? ⟨b, 0, none⟩ = some cv := h.box.cell 0
theorem Th.at_ (h : Th T I w B b cv tv wv s) : w.cell? ⟨b, 1, none⟩ = some (.int .i64 s.p) := h.box.cell 1
theorem Th.get (h : Th T I w B b cv tv wv s) {i : Nat} (hi : i < 24) : w.cell? ⟨b, 2 + i, none⟩ = some (.int .i64 (s.r i)) := (h.box.cell _).trans (thC_reg hi)
theorem Th.toldv (h : Th T I w B b cv tv wv s) : w.cell? ⟨b, 26, none⟩ = some tv := (h.box.cell _).trans thC_told
/-- The shared words, where there is one. -/
theorem Th.some (h : Th T I w B b cv tv wv s) {q : Nat} (hq : q < s.w.length) : ∃ g c x, wv = .slice (Option.some ⟨g, 0, none⟩) s.w.length c ∧ B ≤ g ∧ g < w.heap.size ∧ g ≠ b ∧ w.cell? ⟨g, q, none⟩ = Option.some (.int .i64 x) ∧ Hid (s.w[q]? = Option.some x) ∧ w.frozen? ⟨g, q, none⟩ = false := by
  obtain ⟨g, c, rfl, h1, h2, h3⟩ := own_some h.words (by omega)
  obtain ⟨x, hx, HX, _⟩ := own_val h.words hq
  refine ⟨g, c, x, rfl, h1, h2, ?_, hx, HX, h.words.frozenAt q⟩
  intro he
  have := h.box.ne h.words h.ne
  exact this (by rw [he]; rfl)
end

/-- A whole struct is stored into a block of the call's own. -/
theorem store_box {P : Program} {ops : Array Oper} {rest : List Oper} {o : Oper} {a : Act} {w : World} {Q : Exit → Act → World → Prop} (hgd : o.guard = none) (hdst : o.dst = none) (ty : TypeId) (x y : Operand) (ho : o.op = .store ty x y)
    (g : Nat) (cells : List Value) (hx : a.eval x = .pointer (some ⟨g, 0, none⟩)) (hy : a.eval y = .agg cells.toArray)
    (t : TypeId) (old : List Value) (hg : Box w g t old) (hi : (P.info? ty).map (·.size) = some cells.length)
    (hold : old.length = cells.length) (h1 : ∀ v ∈ cells, v.oneCell' = true)
    (h : ∀ w', Hid (Box w' g t cells) → w.grownBy w' (some g) → wpList P ops Q rest a w') : wpList P ops Q (o :: rest) a w := by
  refine wpList_store_row hgd ty x y ho g cells.toArray hx hy t old.toArray hg (by simpa using hi) (by simpa using hold) (Array.all_eq_true_iff_forall_mem.2 (fun v hv => h1 v (by simpa using hv))) ?_
  rw [hdst]
  refine h _ (setRow_heap w g _ _ t _ hg) ⟨rfl, rfl, rfl, by simp [World.setRow], fun k _ hk => setRow_other w g k _ (fun e => hk (by rw [e]))⟩
theorem results_tmp4 {fn : Func} {t u v x : Tmp} (h : fn.results = #[.tmp t, .tmp u, .tmp v, .tmp x]) (tmps : Array Value) (P : Program) (w : World) :
    (results fn tmps).run P w = .ok (.tuple #[tmps.getD t undef, tmps.getD u undef, tmps.getD v undef, tmps.getD x undef]) w := by
  simp [results, h]
theorem thC_one {cv tv : Value} {p : Int} {r : Int → Int} (hc : cv.oneCell' = true) (ht : tv.oneCell' = true) : ∀ v ∈ thC cv p r tv, v.oneCell' = true := by
  intro v hv
  simp only [thC, regV, List.mem_cons, List.mem_append, List.mem_map, List.mem_singleton, List.not_mem_nil, or_false] at hv
  rcases hv with rfl | rfl | ⟨i, _, rfl⟩ | rfl
  · exact hc
  · rfl
  · rfl
  · exact ht
end Go.Baro
