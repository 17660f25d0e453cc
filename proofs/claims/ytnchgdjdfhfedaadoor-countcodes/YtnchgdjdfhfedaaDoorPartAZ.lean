/- What the functions of count return. No statement of the seat is proved here; no condition. -/
import Derived.Test.YtnchgdjdfhfedaaDoorPartAP
import Derived.Test.YtnchgdjdfhfedaaDoorPartAR
import Derived.Test.YtnchgdjdfhfedaaDoorPartAY
set_option linter.unusedSimpArgs false
set_option linter.unusedVariables false
namespace Go.Proofs.YtnchgdjdfhfedaaDoor
open Go.RowKit Go.Ord Go.Baro Go.Maps

def nm_number : Nm := [110, 117, 109, 98, 101, 114]
def nm_again : Nm := [97, 103, 97, 105, 110]
def nm_value : Nm := [118, 97, 108, 117, 101]
def nm_zero : Nm := [122, 101, 114, 111]
def nm_given : Nm := [103, 105, 118, 101, 110]
theorem own_cap {w : World} {B : Nat} {e : TypeId} {s n : Nat} {v : Value} {xs : List Value} (h : w.ownsRow B e s v n xs) : ∃ A k, v = .slice A n k ∧ n ≤ k ∧ k ≤ 9223372036854775807 := by
  rcases h.2 with ⟨rfl, rfl⟩ | ⟨g, cap, cur, rfl, _, _, h1, h2, _⟩
  · exact ⟨_, _, rfl, Nat.le_refl _, by omega⟩
  · exact ⟨_, _, rfl, h1, by unfold maxLen at h2; omega⟩
theorem AsmPost.alloc {w : World} {B b n : Nat} {s : Bs} {w' : World} (h : AsmPost w B b s n w') (o : Obj) : AsmPost w B b s n (w'.alloc o) := by
  obtain ⟨⟨cv, jv, rm, lm, h1⟩, h2, h3⟩ := h
  exact ⟨⟨cv, jv, rm, lm, h1.alloc o⟩, h2.trans (Kc.below ((Below.refl _ _).alloc (Nat.le_refl _) o)), h3.alloc h1.hB o⟩
set_option maxHeartbeats 1000000 in
theorem count_assembled (w : World) (hT : Tab w) (B b n : Nat) (s : Bs) (c : List Ins) (h : BdAt w B b s n) (hf : s.fin = some c) (hj0 : ∀ j ∈ s.jmps, 0 ≤ j.1 ∧ j.2.length ≤ 1000) (hjl : s.jmps.length ≤ 1000) :
    Calls Tryd.prog 31 #[.pointer (some ⟨b, 0, none⟩)] w fun e w' => (∃ A m k, e = .returned (.slice A m k) ∧ m ≤ k ∧ k ≤ 9223372036854775807 ∧ QT w' 73 5 A m (cellsO c)) ∧ Below w.heap.size w w' := by
  have HC := Lib.hid (asm_Code w hT B b n s c h hf hj0 hjl)
  clear h hf hj0 hjl hT
  go_enter Tryd.func31, Tryd.ntmps31
  go_wp2_with fail
  refine HC.out.mono ?_
  rintro e w7 ⟨v, rfl, hown, hb7⟩
  obtain ⟨A7, k7, rfl, hk7, hk8⟩ := own_cap hown
  go_wp2
  go_ret
  exact ⟨⟨_, _, _, rfl, hk7, hk8, QT.own hown⟩, hb7⟩
def count_Add_B : Bs := (((((((Bs.new [nm_number]).lab nm_again).load nm_value nm_zero (0)).op3 3 nm_given nm_value nm_number).cas nm_given nm_zero (0) nm_value).unless nm_given nm_again).emit [nm_value])
theorem count_Add_fin : (count_Add_B).fin = some (Cnt.addC) ∧ (∀ j ∈ (count_Add_B).jmps, 0 ≤ j.1 ∧ j.2.length ≤ 1000) ∧ (count_Add_B).jmps.length ≤ 1000 := ⟨by kernel_rfl, by decide +kernel, by decide +kernel⟩
theorem count_Add_new : ∀ (j : Nat) l, ([nm_number] : List Nm)[j]? = some l → nmAsk (Bs.new (([nm_number] : List Nm).take j)).regs l = none := by
  intro j l hl
  rcases (by omega : j = 0 ∨ 1 ≤ j) with rfl | h
  all_goals first | (injection hl with hl; subst hl; kernel_rfl) | (rw [List.getElem?_eq_none (by simpa using h)] at hl; cases hl)
set_option maxRecDepth 100000 in
set_option maxHeartbeats 4000000 in
theorem count_Add : C0Spec 9 (Cnt.addC) := by
  intro w hT
  have HT := Lib.hid hT
  clear hT
  go_enter Tryd.func9, Tryd.ntmps9
  go_wp2_with fail
  have HQ := Lib.hid (show QN (w.alloc (.cells #[nmV nm_number] 9)) (some ⟨w.heap.size, 0, none⟩) 1 [nm_number] from QT.box (s := 1) (n := 1) (Box.newAt w 9 [nmV nm_number] w.heap.size rfl) rfl)
  have hb0 : Below w.heap.size w (w.alloc (.cells #[nmV nm_number] 9)) := (Below.refl w.heap.size w).alloc (Nat.le_refl _) (.cells #[nmV nm_number] 9)
  refine (asm_New (w.alloc (.cells #[nmV nm_number] 9)) (some ⟨w.heap.size, 0, none⟩) 1 1 [nm_number] HQ.out (by omega) (by decide) count_Add_new).mono ?_
  rintro e w1 ⟨b, rfl, H⟩
  obtain ⟨w0, hw0⟩ : ∃ w0, w0 = w.alloc (.cells #[nmV nm_number] 9) := ⟨_, rfl⟩
  clear HQ
  rw [← hw0] at H hb0
  obtain ⟨B, hB⟩ : ∃ B, B = w0.heap.size := ⟨_, rfl⟩
  rw [← hB] at H
  have HBB := Lib.hid hB
  have HB0 := Lib.hid hb0
  have HP0 := Lib.hid H
  clear H hB hb0 hw0
  go_wp2_with fail
  refine (asm_Label _ B b 1 (Bs.new [nm_number]) nm_again HP0.out.1 (by omega) (by decide) (by kernel_rfl)).mono ?_
  rintro e w1 ⟨rfl, H⟩
  have HP1 := Lib.hid (HP0.out.trans H)
  clear H
  go_wp2_with fail
  refine (asm_LoadE _ B b (1 + 1) ((Bs.new [nm_number]).lab nm_again) nm_value nm_zero _ (0) (by first | rfl | omega) HP1.out.1 (by omega) (by decide) (by decide)).mono ?_
  rintro e w2 ⟨rfl, H⟩
  have HP2 := Lib.hid (HP1.out.trans H)
  clear H
  go_wp2_with fail
  refine (asm_Add _ B b ((1 + 1) + 3) (((Bs.new [nm_number]).lab nm_again).load nm_value nm_zero (0)) nm_given nm_value nm_number HP2.out.1 (by omega) (by decide) (by decide) (by decide)).mono ?_
  rintro e w3 ⟨rfl, H⟩
  have HP3 := Lib.hid (HP2.out.trans H)
  clear H
  go_wp2_with fail
  refine (asm_CasE _ B b (((1 + 1) + 3) + 4) ((((Bs.new [nm_number]).lab nm_again).load nm_value nm_zero (0)).op3 3 nm_given nm_value nm_number) nm_given nm_zero _ (0) nm_value (by first | rfl | omega) HP3.out.1 (by omega) (by decide) (by decide) (by decide)).mono ?_
  rintro e w4 ⟨rfl, H⟩
  have HP4 := Lib.hid (HP3.out.trans H)
  clear H
  go_wp2_with fail
  refine (asm_Unless _ B b ((((1 + 1) + 3) + 4) + 4) (((((Bs.new [nm_number]).lab nm_again).load nm_value nm_zero (0)).op3 3 nm_given nm_value nm_number).cas nm_given nm_zero (0) nm_value) nm_given nm_again HP4.out.1 (by omega) (by decide) (by decide)).mono ?_
  rintro e w5 ⟨rfl, H⟩
  have HP5 := Lib.hid (HP4.out.trans H)
  clear H
  go_wp2_with fail
  have HN6 := Lib.hid (show QN (w5.alloc (.cells #[nmV nm_value] 9)) (some ⟨w5.heap.size, 0, none⟩) 1 [nm_value] from QT.box (s := 1) (n := 1) (Box.newAt w5 9 [nmV nm_value] w5.heap.size rfl) rfl)
  have HM6 := Lib.hid (HP5.out.alloc (.cells #[nmV nm_value] 9))
  refine (asm_Emit _ B b (((((1 + 1) + 3) + 4) + 4) + 3) ((((((Bs.new [nm_number]).lab nm_again).load nm_value nm_zero (0)).op3 3 nm_given nm_value nm_number).cas nm_given nm_zero (0) nm_value).unless nm_given nm_again) (some ⟨w5.heap.size, 0, none⟩) 1 1 [nm_value] HM6.out.1 (by omega) HN6.out (by omega) (by decide)).mono ?_
  rintro e w6 ⟨rfl, H⟩
  have HP6 := Lib.hid (HM6.out.trans H)
  clear H
  obtain ⟨f1, f2, f3⟩ := count_Add_fin
  have hb6 : Below w.heap.size w _ := HB0.out.trans (HP6.out.2.2.mono (by rw [HBB.out]; exact HB0.out.size))
  go_wp2_with fail
  refine (count_assembled _ (HT.out.below hb6 HT.out.lt) B b _ (count_Add_B) _ HP6.out.1 f1 f2 f3).mono ?_
  rintro e w7 ⟨⟨A7, m7, k7, rfl, hk7, hk8, hq7⟩, hb7⟩
  go_wp2
  go_ret
  exact ⟨⟨_, _, _, rfl, hk7, hk8, hq7⟩, hb6.trans (hb7.mono hb6.size)⟩
def count_Get_B : Bs := (((Bs.new []).load nm_value nm_zero (0)).emit [nm_value])
theorem count_Get_fin : (count_Get_B).fin = some (Cnt.getC) ∧ (∀ j ∈ (count_Get_B).jmps, 0 ≤ j.1 ∧ j.2.length ≤ 1000) ∧ (count_Get_B).jmps.length ≤ 1000 := ⟨by kernel_rfl, by decide +kernel, by decide +kernel⟩
set_option maxRecDepth 100000 in
set_option maxHeartbeats 4000000 in
theorem count_Get : C0Spec 10 (Cnt.getC) := by
  intro w hT
  have HT := Lib.hid hT
  clear hT
  go_enter Tryd.func10, Tryd.ntmps10
  go_wp2_with fail
  refine (asm_New _ none 0 0 [] (QT.nil _ _ _ _) (by omega) (by simp) (by simp)).mono ?_
  have hb0 : Below w.heap.size w w := Below.refl _ _
  rintro e w1 ⟨b, rfl, H⟩
  obtain ⟨w0, hw0⟩ : ∃ w0, w0 = w := ⟨_, rfl⟩
  rw [← hw0] at H
  have hb0 : Below w.heap.size w w0 := by rw [hw0]; exact Below.refl _ _
  obtain ⟨B, hB⟩ : ∃ B, B = w0.heap.size := ⟨_, rfl⟩
  rw [← hB] at H
  have HBB := Lib.hid hB
  have HB0 := Lib.hid hb0
  have HP0 := Lib.hid H
  clear H hB hb0 hw0
  go_wp2_with fail
  refine (asm_LoadE _ B b 0 (Bs.new []) nm_value nm_zero _ (0) (by first | rfl | omega) HP0.out.1 (by omega) (by decide) (by decide)).mono ?_
  rintro e w1 ⟨rfl, H⟩
  have HP1 := Lib.hid (HP0.out.trans H)
  clear H
  go_wp2_with fail
  have HN2 := Lib.hid (show QN (w1.alloc (.cells #[nmV nm_value] 9)) (some ⟨w1.heap.size, 0, none⟩) 1 [nm_value] from QT.box (s := 1) (n := 1) (Box.newAt w1 9 [nmV nm_value] w1.heap.size rfl) rfl)
  have HM2 := Lib.hid (HP1.out.alloc (.cells #[nmV nm_value] 9))
  refine (asm_Emit _ B b (0 + 3) ((Bs.new []).load nm_value nm_zero (0)) (some ⟨w1.heap.size, 0, none⟩) 1 1 [nm_value] HM2.out.1 (by omega) HN2.out (by omega) (by decide)).mono ?_
  rintro e w2 ⟨rfl, H⟩
  have HP2 := Lib.hid (HM2.out.trans H)
  clear H
  obtain ⟨f1, f2, f3⟩ := count_Get_fin
  have hb6 : Below w.heap.size w _ := HB0.out.trans (HP2.out.2.2.mono (by rw [HBB.out]; exact HB0.out.size))
  go_wp2_with fail
  refine (count_assembled _ (HT.out.below hb6 HT.out.lt) B b _ (count_Get_B) _ HP2.out.1 f1 f2 f3).mono ?_
  rintro e w7 ⟨⟨A7, m7, k7, rfl, hk7, hk8, hq7⟩, hb7⟩
  go_wp2
  go_ret
  exact ⟨⟨_, _, _, rfl, hk7, hk8, hq7⟩, hb6.trans (hb7.mono hb6.size)⟩
theorem eltIntC : Elt Tryd.prog 22 3 (.int .i64 0) 1 8 := Elt.mk' Tryd.underlying22 (by kernel_rfl) rfl (by decide)
set_option maxHeartbeats 1000000 in
theorem count_Words : W0Spec 8 [0] := by
  intro w hT
  clear hT
  go_enter Tryd.func8, Tryd.ntmps8
  go_wp2_with (at_make; refine make_all eltIntC w rfl _ _ rfl w.heap.size _ _ _ _ 1 rfl rfl rfl rfl (by omega) (by omega) (Nat.le_refl _) ?_; intro w1 hown1 hb1 hs1 hg1)
  go_ret
  have hb := hb1 w (Below.refl _ _)
  refine ⟨?_, hb⟩
  have hq := QT.own hown1
  refine ⟨_, _, _, rfl, Nat.le_refl _, by omega, ?_⟩
  rw [madeCells_one _ rfl] at hq
  simpa using hq
instance (x : Int) : Decidable (inW x) := by unfold inW; infer_instance
instance (o : Ins) : Decidable (inI o) := by unfold inI; infer_instance
theorem count_cuOk : CuOk Cnt.cC := ⟨by decide, by decide, by decide, by decide, by decide +kernel, by decide +kernel, by decide, by decide +kernel, by decide +kernel⟩
end Go.Proofs.YtnchgdjdfhfedaaDoor
