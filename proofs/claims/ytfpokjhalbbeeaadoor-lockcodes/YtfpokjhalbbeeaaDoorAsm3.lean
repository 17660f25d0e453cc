/- The builder of codes: labels, lists of registers, a new one. No statement of the seat is proved here; no condition. -/
import Derived.Test.YtfpokjhalbbeeaaDoorAsm2
set_option linter.unusedSimpArgs false
set_option linter.unusedVariables false
namespace Go.Proofs.YtfpokjhalbbeeaaDoor
open Go.RowKit Go.Ord Go.Baro Go.Maps

/-- A slice of names. -/
def QN (w : World) (A : Option Addr) (n : Nat) (xs : List Nm) : Prop := QT w 9 1 A n (xs.map nmV)
theorem QN.kc {w w' : World} {A : Option Addr} {n : Nat} {xs : List Nm} (h : QN w A n xs) (hk : Kc tAsm w w') : QN w' A n xs := QT.kc h hk tAsm_str
theorem QN.len {w : World} {A : Option Addr} {n : Nat} {xs : List Nm} (h : QN w A n xs) : xs.length = n := by have := h.1; simpa using this
theorem QN.val {w : World} {A : Option Addr} {n : Nat} {xs : List Nm} (h : QN w A n xs) {i : Nat} (hi : i < n) : ∃ b o l, A = some ⟨b, o, none⟩ ∧ b < w.heap.size ∧ w.cell? ⟨b, o + i, none⟩ = some (nmV l) ∧ Hid (xs[i]? = some l) := by
  obtain ⟨b, o, cur, fr, hA, hb, hc⟩ := h.2 (by omega)
  have hl : i < xs.length := by rw [h.len]; exact hi
  refine ⟨b, o, xs[i], hA, lt_of_heap hb, ?_, List.getElem?_eq_getElem hl⟩
  rw [hc i (by omega)]
  simp [hl]
set_option maxHeartbeats 1000000 in
theorem asm_Label (w : World) (B b n : Nat) (s : Bs) (l : Nm) (h : BdAt w B b s n) (hn : n < 100000) (hl : l.length ≤ 1000) (ha : nmAsk s.labs l = none) :
    Calls Tryd.prog 25 #[.pointer (some ⟨b, 0, none⟩), nmV l] w fun e w' => e = .returned (.tuple #[]) ∧ AsmPost w B b (s.lab l) (n + 1) w' := by
  obtain ⟨cv, jv, rm, lm, h⟩ := h
  have hlt := h.lt
  have hB := h.hB
  have hbn : s.code.length ≤ n := h.bnd.1
  obtain ⟨A, c, rfl, hlc⟩ := own_form h.code
  have c0 : w.cell? ⟨b, 0, none⟩ = some (.slice A s.code.length c) := h.box.cell 0
  have c2 : w.cell? ⟨b, 2, none⟩ = some (.map (some lm)) := h.box.cell 2
  obtain ⟨m, hm⟩ : ∃ m, m = s.code.length := ⟨_, rfl⟩
  rw [← hm] at c0 hbn hlc
  have HM := Lib.hid hm
  have HB := Lib.hid h
  have HA := Lib.hid ha
  clear ha h hm
  go_enter Tryd.func25, Tryd.ntmps25
  go_wp2_with (refine wp_lookN rfl (.tmp 10) (.tmp 11) rfl lm n s.labs l rfl HB.out.labs rfl hl none HA.out ?_)
  refine region_two [0, 1, 2, 3, 4, 5, 6, 7, 8, 9] [10] (by kernel_rfl) (by kernel_rfl) ?_
  simp only [pick, List.map_cons, List.map_nil, List.getD_cons_zero, List.getD_cons_succ]
  go_wp2_with (refine wp_updS rfl rfl (.tmp 22) (.tmp 23) (.tmp 28) rfl lm n s.labs l _ rfl (by exact HB.out.drew.labs) rfl rfl hl (by unfold inW; omega) (by omega) HA.out ?_; intro w1 HMS hg1)
  refine bodyPost_end (v := .tuple #[]) (results_noneA rfl _ _) rfl ?_
  rw [HM.out] at HMS
  have hg2 : w.grownBy w1 (some lm) := ⟨hg1.os, hg1.tape, hg1.output, hg1.size, hg1.block⟩
  exact ⟨rfl, ⟨_, _, _, _, HB.out.labelled HMS.out hg2⟩, kc_mapL HB.out.labs hg2, (Below.refl B w).grown hg2 hB (fun k hk => by injection hk with hk; subst hk; exact HB.out.low.2.2.1)⟩
/-- A builder that has just been made. -/
theorem bd_made (w : World) (v : Value) (hv : v = .slice none 0 0) : BdAt ((((w.alloc (.map #[] 0)).alloc (.map #[] 0)).alloc (.cells #[.slice none 0 0, .map (some w.heap.size), .map (some (w.heap.size + 1)), .slice none 0 0, .bool false] 79))) w.heap.size (w.heap.size + 2) ⟨[], [], [], [], false⟩ 0 := by
  refine ⟨.slice none 0 0, .slice none 0 0, w.heap.size, w.heap.size + 1, ?_, World.ownsRow_nil _ _ _ _, World.ownsRow_nil _ _ _ _, ?_, ?_, ⟨by omega, by omega, by omega, by omega⟩, ⟨Nat.le_refl _, Nat.le_refl _, Nat.le_refl _⟩⟩
  · have := Box.newAt ((w.alloc (.map #[] 0)).alloc (.map #[] 0)) 79 [.slice none 0 0, .map (some w.heap.size), .map (some (w.heap.size + 1)), .slice none 0 0, .bool false] (w.heap.size + 2) (by simp)
    exact this
  · exact ((MS.made w).kept (World.grownBy_alloc _ _ none) (by simp)).kept (World.grownBy_alloc _ _ none) (by simp)
  · have := MS.made (w.alloc (.map #[] 0))
    rw [show (w.alloc (.map #[] 0)).heap.size = w.heap.size + 1 by simp] at this
    exact this.kept (World.grownBy_alloc _ _ none) (by simp)
set_option maxHeartbeats 1000000 in
theorem asm_New (w : World) (A : Option Addr) (m c : Nat) (xs : List Nm) (hx : QN w A m xs) (hm : m ≤ 1000) (hl : ∀ x ∈ xs, x.length ≤ 1000) (hd : ∀ (j : Nat) l, xs[j]? = some l → nmAsk (Bs.new (xs.take j)).regs l = none) :
    Calls Tryd.prog 22 #[.slice A m c] w fun e w' => ∃ b, e = .returned (.pointer (some ⟨b, 0, none⟩)) ∧ AsmPost w w.heap.size b (Bs.new xs) m w' := by
  have HX := Lib.hid hx
  have HL := Lib.hid hl
  have HD := Lib.hid hd
  have HB0 := Lib.hid (bd_made w (.slice none 0 0) rfl)
  have h0 := ((((Below.refl w.heap.size w).alloc (Nat.le_refl _) (.map #[] 0)).alloc (by simp) (.map #[] 0)).alloc (by simp; omega) (.cells #[.slice none 0 0, .map (some w.heap.size), .map (some (w.heap.size + 1)), .slice none 0 0, .bool false] 79))
  clear hx hl hd
  have hmm := @run_makeMap Tryd.prog
  go_enter Tryd.func22, Tryd.ntmps22
  go_wp2
  go_loopw [14] (fun i wr => ∃ j : Nat, j ≤ m ∧ i = .int .i64 j ∧ Hid (AsmPost w w.heap.size (w.heap.size + 2) (Bs.new (xs.take j)) j wr)) (fun i _ => m - (intOf i).toNat)
  case atStart => exact ⟨0, Nat.zero_le _, rfl, HB0.out, Kc.below h0, h0⟩
  case round =>
    obtain ⟨j, hj, rfl, HP⟩ := hrel
    by_cases h1 : j < m
    · obtain ⟨g, o, l, rfl, hgB, hcell, HXL⟩ := (HX.out.kc HP.out.2.1).val h1
      obtain ⟨cv, jv, rm, lm, hb⟩ := HP.out.1
      have c1 : wr.cell? ⟨w.heap.size + 2, 1, none⟩ = some (.map (some rm)) := hb.box.cell 1
      have hlt := hb.lt
      have HBD := Lib.hid hb
      have HDL := Lib.hid (HD.out j l HXL.out)
      clear hb
      go_wp2_with (refine wp_lookN rfl (.tmp 22) (.tmp 23) rfl rm j (Bs.new (xs.take j)).regs l rfl HBD.out.regs rfl (HL.out l (List.mem_of_getElem? HXL.out)) none HDL.out ?_)
      refine (asm_register _ _ _ j (Bs.new (xs.take j)) l HP.out.1 (by omega) (HL.out l (List.mem_of_getElem? HXL.out))).mono ?_
      rintro e w1 ⟨rfl, H⟩
      have H1 := Lib.hid H
      clear H
      go_wp2
      go_roundw
      case rel =>
        refine ⟨j + 1, by omega, by go_num, ?_⟩
        have := HP.out.trans H1.out
        rw [at_take HXL.out]
        unfold Bs.new at *
        rw [List.foldl_append]
        exact this
      case measure => simp [intOf]; omega
    · obtain rfl : j = m := by omega
      go_wp2
      go_ret
      have := HP.out
      rw [List.take_of_length_le (by rw [HX.out.len]; exact Nat.le_refl _)] at this
      exact ⟨_, rfl, this⟩
end Go.Proofs.YtfpokjhalbbeeaaDoor
