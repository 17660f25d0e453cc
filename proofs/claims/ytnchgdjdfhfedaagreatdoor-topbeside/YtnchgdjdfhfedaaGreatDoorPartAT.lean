/- Of this claim's own texts these, one behind the other: Count1, RunPure6, Vm6, Run1. No statement of the seat is proved here; no condition but those that stand at the theorems. -/
import Derived.Test.YtnchgdjdfhfedaaGreatDoorPartAQ
import Derived.Test.YtnchgdjdfhfedaaGreatDoorPartAI
import Derived.Test.YtnchgdjdfhfedaaGreatDoorPartAL
import Derived.Test.YtnchgdjdfhfedaaGreatDoorPartAG
import Derived.Laws.CopyOwn
import Derived.Test.YtnchgdjdfhfedaaGreatDoorPartAP
set_option linter.unusedSimpArgs false
set_option linter.unusedVariables false
namespace Go.Proofs.YtnchgdjdfhfedaaGreatDoor
open Go.RowKit Go.Ord Go.Baro Go.Maps

def nmn_number : Nm := [110, 117, 109, 98, 101, 114]
def nmn_again : Nm := [97, 103, 97, 105, 110]
def nmn_value : Nm := [118, 97, 108, 117, 101]
def nmn_zero : Nm := [122, 101, 114, 111]
def nmn_given : Nm := [103, 105, 118, 101, 110]
theorem own_capN {w : World} {B : Nat} {e : TypeId} {s n : Nat} {v : Value} {xs : List Value} (h : w.ownsRow B e s v n xs) : ∃ A k, v = .slice A n k ∧ n ≤ k ∧ k ≤ 9223372036854775807 := by
  rcases h.2 with ⟨rfl, rfl⟩ | ⟨g, cap, cur, rfl, _, _, h1, h2, _⟩
  · exact ⟨_, _, rfl, Nat.le_refl _, by omega⟩
  · exact ⟨_, _, rfl, h1, by unfold maxLen at h2; omega⟩
theorem AsmPost.alloc {w : World} {B b n : Nat} {s : Bs} {w' : World} (h : AsmPost w B b s n w') (o : Obj) : AsmPost w B b s n (w'.alloc o) := by
  obtain ⟨⟨cv, jv, rm, lm, h1⟩, h2, h3⟩ := h
  exact ⟨⟨cv, jv, rm, lm, h1.alloc o⟩, h2.trans (Kc.below ((Below.refl _ _).alloc (Nat.le_refl _) o)), h3.alloc h1.hB o⟩
set_option maxHeartbeats 1000000 in
theorem count_assembled (w : World) (hT : Tab w) (B b n : Nat) (s : Bs) (c : List Ins) (h : BdAt w B b s n) (hf : s.fin = some c) (hj0 : ∀ j ∈ s.jmps, 0 ≤ j.1 ∧ j.2.length ≤ 1000) (hjl : s.jmps.length ≤ 1000) :
    Calls Tryz.prog 32 #[.pointer (some ⟨b, 0, none⟩)] w fun e w' => (∃ A m k, e = .returned (.slice A m k) ∧ m ≤ k ∧ k ≤ 9223372036854775807 ∧ QT w' 67 5 A m (cellsO c)) ∧ Below w.heap.size w w' := by
  have HC := Lib.hid (asm_Code w hT B b n s c h hf hj0 hjl)
  clear h hf hj0 hjl hT
  go_enter Tryz.func32, Tryz.ntmps32
  go_wp2_with fail
  refine HC.out.mono ?_
  rintro e w7 ⟨v, rfl, hown, hb7⟩
  obtain ⟨A7, k7, rfl, hk7, hk8⟩ := own_capN hown
  go_wp2
  go_ret
  exact ⟨⟨_, _, _, rfl, hk7, hk8, QT.own hown⟩, hb7⟩
def count_Add_B : Bs := (((((((Bs.new [nmn_number]).lab nmn_again).load nmn_value nmn_zero (0)).op3 3 nmn_given nmn_value nmn_number).cas nmn_given nmn_zero (0) nmn_value).unless nmn_given nmn_again).emit [nmn_value])
theorem count_Add_fin : (count_Add_B).fin = some (Cnt.addC) ∧ (∀ j ∈ (count_Add_B).jmps, 0 ≤ j.1 ∧ j.2.length ≤ 1000) ∧ (count_Add_B).jmps.length ≤ 1000 := ⟨by kernel_rfl, by decide +kernel, by decide +kernel⟩
theorem count_Add_new : ∀ (j : Nat) l, ([nmn_number] : List Nm)[j]? = some l → nmAsk (Bs.new (([nmn_number] : List Nm).take j)).regs l = none := by
  intro j l hl
  rcases (by omega : j = 0 ∨ 1 ≤ j) with rfl | h
  all_goals first | (injection hl with hl; subst hl; kernel_rfl) | (rw [List.getElem?_eq_none (by simpa using h)] at hl; cases hl)
set_option maxRecDepth 100000 in
set_option maxHeartbeats 4000000 in
theorem count_Add : C0Spec 9 (Cnt.addC) := by
  intro w hT
  have HT := Lib.hid hT
  clear hT
  go_enter Tryz.func9, Tryz.ntmps9
  go_wp2_with fail
  have HQ := Lib.hid (show QN (w.alloc (.cells #[nmV nmn_number] 9)) (some ⟨w.heap.size, 0, none⟩) 1 [nmn_number] from QT.box (s := 1) (n := 1) (Box.newAt w 9 [nmV nmn_number] w.heap.size rfl) rfl)
  have hb0 : Below w.heap.size w (w.alloc (.cells #[nmV nmn_number] 9)) := (Below.refl w.heap.size w).alloc (Nat.le_refl _) (.cells #[nmV nmn_number] 9)
  refine (asm_New (w.alloc (.cells #[nmV nmn_number] 9)) (some ⟨w.heap.size, 0, none⟩) 1 1 [nmn_number] HQ.out (by omega) (by decide) count_Add_new).mono ?_
  rintro e w1 ⟨b, rfl, H⟩
  obtain ⟨w0, hw0⟩ : ∃ w0, w0 = w.alloc (.cells #[nmV nmn_number] 9) := ⟨_, rfl⟩
  clear HQ
  rw [← hw0] at H hb0
  obtain ⟨B, hB⟩ : ∃ B, B = w0.heap.size := ⟨_, rfl⟩
  rw [← hB] at H
  have HBB := Lib.hid hB
  have HB0 := Lib.hid hb0
  have HP0 := Lib.hid H
  clear H hB hb0 hw0
  go_wp2_with fail
  refine (asm_Label _ B b 1 (Bs.new [nmn_number]) nmn_again HP0.out.1 (by omega) (by decide) (by kernel_rfl)).mono ?_
  rintro e w1 ⟨rfl, H⟩
  have HP1 := Lib.hid (HP0.out.trans H)
  clear H
  go_wp2_with fail
  refine (asm_LoadE _ B b (1 + 1) ((Bs.new [nmn_number]).lab nmn_again) nmn_value nmn_zero _ (0) (by first | rfl | omega) HP1.out.1 (by omega) (by decide) (by decide)).mono ?_
  rintro e w2 ⟨rfl, H⟩
  have HP2 := Lib.hid (HP1.out.trans H)
  clear H
  go_wp2_with fail
  refine (asm_Add _ B b ((1 + 1) + 3) (((Bs.new [nmn_number]).lab nmn_again).load nmn_value nmn_zero (0)) nmn_given nmn_value nmn_number HP2.out.1 (by omega) (by decide) (by decide) (by decide)).mono ?_
  rintro e w3 ⟨rfl, H⟩
  have HP3 := Lib.hid (HP2.out.trans H)
  clear H
  go_wp2_with fail
  refine (asm_CasE _ B b (((1 + 1) + 3) + 4) ((((Bs.new [nmn_number]).lab nmn_again).load nmn_value nmn_zero (0)).op3 3 nmn_given nmn_value nmn_number) nmn_given nmn_zero _ (0) nmn_value (by first | rfl | omega) HP3.out.1 (by omega) (by decide) (by decide) (by decide)).mono ?_
  rintro e w4 ⟨rfl, H⟩
  have HP4 := Lib.hid (HP3.out.trans H)
  clear H
  go_wp2_with fail
  refine (asm_Unless _ B b ((((1 + 1) + 3) + 4) + 4) (((((Bs.new [nmn_number]).lab nmn_again).load nmn_value nmn_zero (0)).op3 3 nmn_given nmn_value nmn_number).cas nmn_given nmn_zero (0) nmn_value) nmn_given nmn_again HP4.out.1 (by omega) (by decide) (by decide)).mono ?_
  rintro e w5 ⟨rfl, H⟩
  have HP5 := Lib.hid (HP4.out.trans H)
  clear H
  go_wp2_with fail
  have HN6 := Lib.hid (show QN (w5.alloc (.cells #[nmV nmn_value] 9)) (some ⟨w5.heap.size, 0, none⟩) 1 [nmn_value] from QT.box (s := 1) (n := 1) (Box.newAt w5 9 [nmV nmn_value] w5.heap.size rfl) rfl)
  have HM6 := Lib.hid (HP5.out.alloc (.cells #[nmV nmn_value] 9))
  refine (asm_Emit _ B b (((((1 + 1) + 3) + 4) + 4) + 3) ((((((Bs.new [nmn_number]).lab nmn_again).load nmn_value nmn_zero (0)).op3 3 nmn_given nmn_value nmn_number).cas nmn_given nmn_zero (0) nmn_value).unless nmn_given nmn_again) (some ⟨w5.heap.size, 0, none⟩) 1 1 [nmn_value] HM6.out.1 (by omega) HN6.out (by omega) (by decide)).mono ?_
  rintro e w6 ⟨rfl, H⟩
  have HP6 := Lib.hid (HM6.out.trans H)
  clear H
  obtain ⟨f1, f2, f3⟩ := count_Add_fin
  have hb6 : Below w.heap.size w _ := HB0.out.trans (HP6.out.2.2.mono (by rw [HBB.out]; exact HB0.out.size))
  go_wp2_with fail
  refine (count_assembled _ (HT.out.below hb6 HT.out.lt) B b _ (count_Add_B) _ HP6.out.1 f1 f2 f3).mono ?_
  rintro e w7 ⟨⟨A7, m7, k7, rfl, hk7, hk8, hq7⟩, hb7⟩
  go_wp2
  go_ret
  exact ⟨⟨_, _, _, rfl, hk7, hk8, hq7⟩, hb6.trans (hb7.mono hb6.size)⟩
theorem eltIntN : Elt Tryz.prog 22 3 (.int .i64 0) 1 8 := Elt.mk' Tryz.underlying22 (by kernel_rfl) rfl (by decide)
set_option maxHeartbeats 1000000 in
theorem count_Words : W0Spec 8 [0] := by
  intro w hT
  clear hT
  go_enter Tryz.func8, Tryz.ntmps8
  go_wp2_with (at_make; refine make_all eltIntN w rfl _ _ rfl w.heap.size _ _ _ _ 1 rfl rfl rfl rfl (by omega) (by omega) (Nat.le_refl _) ?_; intro w1 hown1 hb1 hs1 hg1)
  go_ret
  have hb := hb1 w (Below.refl _ _)
  refine ⟨?_, hb⟩
  have hq := QT.own hown1
  refine ⟨_, _, _, rfl, Nat.le_refl _, by omega, ?_⟩
  rw [madeCells_one _ rfl] at hq
  simpa using hq
instance instInWN (x : Int) : Decidable (inW x) := by unfold inW; infer_instance
instance instInIN (o : Ins) : Decidable (inI o) := by unfold inI; infer_instance
theorem count_cuOk : CuOk Cnt.cC := ⟨by decide, by decide, by decide, by decide, by decide +kernel, by decide +kernel, by decide, by decide +kernel, by decide +kernel⟩
end Go.Proofs.YtnchgdjdfhfedaaGreatDoor

set_option linter.unusedSimpArgs false
set_option linter.unusedVariables false
namespace Go.Baro

/-- An event with the number of its step. -/
def inSt (st : Nat) (e : Ev) : Ev := { e with st := st }
theorem actL_zero (g : Gs) (st n bg : Nat) (l : Lv) (o a : List Ev) : actL g st n bg l (a ++ o.map (inSt st)) = ⟨(actL ⟨g.w, g.th, []⟩ 0 n bg l o).w, (actL ⟨g.w, g.th, []⟩ 0 n bg l o).th, a ++ (actL ⟨g.w, g.th, []⟩ 0 n bg l o).out.map (inSt st)⟩ := by
  unfold actL
  dsimp only
  by_cases h : (exc l g.w).2.2.2 = true
  · rw [if_pos h, if_pos h]; simp [inSt]
  · rw [if_neg h, if_neg h]
theorem actG_zero (m : Mc) (g : Gs) (st n : Nat) : actG m g st n = ⟨(actG m ⟨g.w, g.th, []⟩ 0 n).w, (actG m ⟨g.w, g.th, []⟩ 0 n).th, g.out ++ (actG m ⟨g.w, g.th, []⟩ 0 n).out.map (inSt st)⟩ := by
  unfold actG
  dsimp only
  cases (g.th n).now with
  | some l =>
    have := actL_zero g st n (g.th n).bg l [] g.out
    simpa using this
  | none =>
    dsimp only
    cases (m.ts[n]?.getD [])[(g.th n).bg]? with
    | none => simp
    | some c =>
      have := actL_zero g st n ((g.th n).bg + 1) (live (m.cs[c.k.toNat]?.getD []) c.ar) [⟨0, n, (g.th n).bg, false, 0, []⟩] g.out
      simpa [inSt] using this
/-- What a thread does, of itself: its state, the words, the events. -/
def actT (m : Mc) (n : Nat) (t : Td) (w : List Int) : Gs := actG m ⟨w, fun _ => t, []⟩ 0 n
theorem actL_T (th : Nat → Td) (w : List Int) (n bg : Nat) (l : Lv) (o : List Ev) (t : Td) : (actL ⟨w, th, []⟩ 0 n bg l o) = ⟨(actL ⟨w, fun _ => t, []⟩ 0 n bg l o).w, putT th n ((actL ⟨w, fun _ => t, []⟩ 0 n bg l o).th n), (actL ⟨w, fun _ => t, []⟩ 0 n bg l o).out⟩ := by
  unfold actL
  dsimp only
  by_cases h : (exc l w).2.2.2 = true
  · rw [if_pos h, if_pos h]; simp [putT]
  · rw [if_neg h, if_neg h]; simp [putT]
theorem putT_self (th : Nat → Td) (n : Nat) : putT th n (th n) = th := by
  funext i
  unfold putT
  by_cases h : i = n
  · rw [if_pos h, h]
  · rw [if_neg h]
theorem actG_T (m : Mc) (th : Nat → Td) (w : List Int) (n : Nat) : actG m ⟨w, th, []⟩ 0 n = ⟨(actT m n (th n) w).w, putT th n ((actT m n (th n) w).th n), (actT m n (th n) w).out⟩ := by
  unfold actT actG
  dsimp only
  cases h : (th n).now with
  | some l => exact actL_T th w n (th n).bg l [] (th n)
  | none =>
    dsimp only
    cases (m.ts[n]?.getD [])[(th n).bg]? with
    | none => simp [putT_self]
    | some c => exact actL_T th w n _ _ _ (th n)
/-- A step of the run, by what the thread does of itself. -/
theorem actG_by (m : Mc) (g : Gs) (st n : Nat) {t' : Td} {W : List Int} {es : List Ev} (h : actT m n (g.th n) g.w = ⟨W, fun i => if i = n then t' else g.th n, es⟩) : actG m g st n = ⟨W, putT g.th n t', g.out ++ es.map (inSt st)⟩ := by
  rw [actG_zero, actG_T, h]; simp
/-- No more calls. -/
theorem actT_idle {m : Mc} {n : Nat} {t : Td} {w : List Int} (h1 : t.now = none) (h2 : (m.ts[n]?.getD [])[t.bg]? = none) : actT m n t w = ⟨w, fun _ => t, []⟩ := by
  unfold actT actG
  dsimp only
  rw [h1]
  dsimp only
  rw [h2]
theorem actT_live {m : Mc} {n : Nat} {t : Td} {l : Lv} {w : List Int} (h1 : t.now = some l) : actT m n t w = actL ⟨w, fun _ => t, []⟩ 0 n t.bg l [] := by
  unfold actT actG
  dsimp only
  rw [h1]
theorem actT_call {m : Mc} {n : Nat} {t : Td} {c : Cl} {w : List Int} (h1 : t.now = none) (h2 : (m.ts[n]?.getD [])[t.bg]? = some c) : actT m n t w = actL ⟨w, fun _ => t, []⟩ 0 n (t.bg + 1) (live (m.cs[c.k.toNat]?.getD []) c.ar) [⟨0, n, t.bg, false, 0, []⟩] := by
  unfold actT actG
  dsimp only
  rw [h1]
  dsimp only
  rw [h2]
  rfl
theorem actL_end {g : Gs} {n bg : Nat} {l l' : Lv} {w' : List Int} {E : Int} {o : List Ev} (h : exc l g.w = (l', w', E, true)) : actL g 0 n bg l o = ⟨w', putT g.th n ⟨none, bg⟩, o ++ [⟨0, n, bg - 1, true, E, l'.t⟩]⟩ := by
  unfold actL; rw [h]; rfl
theorem actL_on {g : Gs} {n bg : Nat} {l l' : Lv} {w' : List Int} {E : Int} {o : List Ev} (h : exc l g.w = (l', w', E, false)) : actL g 0 n bg l o = ⟨w', putT g.th n ⟨some l', bg⟩, o⟩ := by
  unfold actL; rw [h]; rfl
end Go.Baro

set_option linter.unusedSimpArgs false
set_option linter.unusedVariables false
namespace Go.Proofs.YtnchgdjdfhfedaaGreatDoor
open Go.RowKit Go.Ord Go.Baro

theorem thC_zero (cv tv : Value) (p : Int) : thC cv p (fun _ => 0) tv = cv :: .int .i64 p :: (List.replicate 24 (.int .i64 0) ++ [tv]) := by
  unfold thC regV
  congr 3
theorem thC_splice (cv tv : Value) (p : Int) (ar : List Int) (h : ar.length ≤ 24) : splice (thC cv p (fun _ => 0) tv) 2 (ar.map (Value.int .i64)) = thC cv p (fun i => if 0 ≤ i then ar[i.toNat]?.getD 0 else 0) tv := by
  unfold splice thC
  rw [List.take_succ_cons, List.take_succ_cons, List.take_zero, List.length_map, show 2 + ar.length = ar.length + 1 + 1 by omega, List.drop_succ_cons, List.drop_succ_cons]
  rw [List.cons_append, List.cons_append, List.nil_append, List.drop_append_of_le_length (by rw [regV_len]; exact h), ← List.append_assoc]
  congr 3
  refine List.ext_getElem? fun j => ?_
  by_cases hj : j < 24
  · rw [regV_at _ hj]
    by_cases hja : j < ar.length
    · rw [List.getElem?_append_left (by simpa using hja), List.getElem?_map, List.getElem?_eq_getElem hja]
      simp [List.getElem?_eq_getElem hja]
    · rw [List.getElem?_append_right (by simp; omega), List.getElem?_drop, List.length_map, show ar.length + (j - ar.length) = j by omega, regV_at _ hj]
      simp [List.getElem?_eq_none (show ar.length ≤ j by omega)]
  · rw [List.getElem?_eq_none (by simp [regV_len]; omega), List.getElem?_eq_none (by rw [regV_len]; omega)]

theorem thA_zero (cv tv : Value) : (thC cv 0 (fun _ => 0) tv).toArray = #[cv, .int .i64 0, .int .i64 0, .int .i64 0, .int .i64 0, .int .i64 0, .int .i64 0, .int .i64 0, .int .i64 0, .int .i64 0, .int .i64 0, .int .i64 0, .int .i64 0, .int .i64 0, .int .i64 0, .int .i64 0, .int .i64 0, .int .i64 0, .int .i64 0, .int .i64 0, .int .i64 0, .int .i64 0, .int .i64 0, .int .i64 0, .int .i64 0, .int .i64 0, tv] := by rw [thC_zero]; simp [List.replicate]

/-- The zero value of a thread. -/
def thZ : List Value := thC (.slice none 0 0) 0 (fun _ => 0) (.slice none 0 0)
theorem thZ_arr : thZ.toArray = #[Value.slice none 0 0, .int .i64 0, .int .i64 0, .int .i64 0, .int .i64 0, .int .i64 0, .int .i64 0, .int .i64 0, .int .i64 0, .int .i64 0, .int .i64 0, .int .i64 0, .int .i64 0, .int .i64 0, .int .i64 0, .int .i64 0, .int .i64 0, .int .i64 0, .int .i64 0, .int .i64 0, .int .i64 0, .int .i64 0, .int .i64 0, .int .i64 0, .int .i64 0, .int .i64 0, .slice none 0 0] := thA_zero _ _

set_option maxRecDepth 100000 in
set_option maxHeartbeats 4000000 in
theorem vm_Begin_no (w : World) (hT : Tab w) (l : List Ins) (ar : List Int) (cA A : Option Addr) (n cc m c B : Nat) (E : Int) (hc : RO w B cA n l) (hB : B ≤ w.heap.size) (hn : n ≤ 9223372036854775807) (hm : m ≤ 9223372036854775807) (hE : (¬ okC l ∧ E = 4) ∨ (okC l ∧ 8 < m ∧ E = 1)) :
    Calls Tryz.prog 59 #[.slice cA n cc, .slice A m c] w fun e w' => e = .returned (.tuple #[.agg thZ.toArray, .int .i64 E]) ∧ Below w.heap.size w w' := by
  have h0 : Below w.heap.size w w := Below.refl _ _
  have bx0 : Box (w.alloc (.cells thZ.toArray 72)) w.heap.size 72 thZ := Box.new w _ _
  have l0 : thZ.length = 27 := thC_len
  have o0 : ∀ v ∈ thZ, v.oneCell' = true := thC_one rfl rfl
  have hin : (Tryz.prog.info? 72).map (·.size) = some 27 := by kernel_rfl
  have hA := h0.alloc (Nat.le_refl _) (Obj.cells thZ.toArray 72)
  have hTA := hT.below hA hT.lt
  have hcA := hc.below (hA.mono hB)
  obtain ⟨C0, hC0⟩ : ∃ C0, C0 = thZ := ⟨_, rfl⟩
  have hZ := thZ_arr
  rw [← hC0] at bx0 l0 o0 hA hTA hcA hZ ⊢
  rw [hZ] at hA hTA hcA bx0
  have HL0 := Lib.hid l0
  have HO0 := Lib.hid o0
  have HIN := Lib.hid hin
  have HZ := Lib.hid hZ
  clear l0 o0 hin hC0 hZ
  rcases hE with ⟨hno, rfl⟩ | ⟨hok, h8, rfl⟩
  · have HNO := Lib.hid hno
    clear hno
    go_enter Tryz.func59, Tryz.ntmps59
    go_wp2_with fail
    refine (vm_May l cA n cc false _ B hTA hcA (by simp; omega) hn (by simp; exact HNO.out)).mono ?_
    rintro e w1 ⟨rfl, hb1⟩
    have HB1 := Lib.hid (bx0.below hb1 (by simp))
    go_wp2_with (refine store_box rfl rfl 72 (.tmp 4) (.tmp 10) rfl w.heap.size C0 rfl (congrArg Value.agg HZ.out.symm) 72 C0 (by have := HB1.out; exact this) (by rw [HL0.out]; exact HIN.out) rfl HO0.out ?_; intro w2 HG2 hg2)
    refine bodyPost_ret (results_row_tmp rfl _ _ w.heap.size 72 C0.toArray (0, 0) _ rfl HG2.out Tryz.underlying72 rfl (by rw [List.size_toArray, HL0.out]; exact HIN.out)) rfl ?_
    have hb2 := hA.trans (hb1.mono (by simp))
    exact ⟨rfl, below_set hb2 hg2 (Nat.le_refl _) hb2.size⟩
  · have HOK := Lib.hid hok
    clear hok
    go_enter Tryz.func59, Tryz.ntmps59
    go_wp2_with fail
    refine (vm_May l cA n cc true _ B hTA hcA (by simp; omega) hn (by simp; exact HOK.out)).mono ?_
    rintro e w1 ⟨rfl, hb1⟩
    have HB1 := Lib.hid (bx0.below hb1 (by simp))
    go_wp2_with (refine store_box rfl rfl 72 (.tmp 4) (.tmp 14) rfl w.heap.size C0 rfl (congrArg Value.agg HZ.out.symm) 72 C0 (by have := HB1.out; exact this) (by rw [HL0.out]; exact HIN.out) rfl HO0.out ?_; intro w2 HG2 hg2)
    refine bodyPost_ret (results_row_tmp rfl _ _ w.heap.size 72 C0.toArray (0, 0) _ rfl HG2.out Tryz.underlying72 rfl (by rw [List.size_toArray, HL0.out]; exact HIN.out)) rfl ?_
    have hb2 := hA.trans (hb1.mono (by simp))
    exact ⟨rfl, below_set hb2 hg2 (Nat.le_refl _) hb2.size⟩

/-- What the beginning of a call leaves: its code lies in a row of its own. -/
def BgPost (l : List Ins) (ar : List Int) (n : Nat) (w : World) (e : Ending) (w' : World) : Prop :=
  ∃ cA cc, e = .returned (.tuple #[.agg (thC (.slice cA n cc) 0 (st0 ar []).r (.slice none 0 0)).toArray, .int .i64 0]) ∧ RO w' w'.heap.size cA n l ∧ (0 < n → ∀ g q, cA = some ⟨g, q, none⟩ → w.heap.size ≤ g) ∧ Below w.heap.size w w'

set_option maxRecDepth 100000 in
set_option maxHeartbeats 4000000 in
theorem vm_Begin (w : World) (hT : Tab w) (l : List Ins) (ar : List Int) (cA A : Option Addr) (n cc m c B : Nat) (hc : RO w B cA n l) (hr : RI w B .i64 A m ar) (hB : B ≤ w.heap.size) (hok : okC l) (hm : m ≤ 8) :
    Calls Tryz.prog 59 #[.slice cA n cc, .slice A m c] w (BgPost l ar n w) := by
  have HL := Lib.hid hr.len
  have hn : n ≤ 200 := by have := hok.1; have := hc.len; omega
  have h0 : Below w.heap.size w w := Below.refl _ _
  have bx0 : Box (w.alloc (.cells thZ.toArray 72)) w.heap.size 72 thZ := Box.new w _ _
  have l0 : thZ.length = 27 := thC_len
  have o0 : ∀ v ∈ thZ, v.oneCell' = true := thC_one rfl rfl
  have hin : (Tryz.prog.info? 72).map (·.size) = some 27 := by kernel_rfl
  have hA := h0.alloc (Nat.le_refl _) (Obj.cells thZ.toArray 72)
  have hTA := hT.below hA hT.lt
  have hcA := hc.below (hA.mono hB)
  obtain ⟨C0, hC0⟩ : ∃ C0, C0 = thZ := ⟨_, rfl⟩
  have hZ := thZ_arr
  rw [← hC0] at bx0 l0 o0 hA hTA hcA hZ
  rw [hZ] at hA hTA hcA bx0
  have HL0 := Lib.hid l0
  have HO0 := Lib.hid o0
  have HIN := Lib.hid hin
  have HZ := Lib.hid hZ
  have HOK := Lib.hid hok
  clear l0 o0 hin hC0 hZ hok
  go_enter Tryz.func59, Tryz.ntmps59
  go_wp2_with fail
  refine (vm_May l cA n cc true _ B hTA hcA (by simp; omega) (by omega) (by simp; exact HOK.out)).mono ?_
  rintro e w1 ⟨rfl, hb1⟩
  have HB1 := Lib.hid (bx0.below hb1 (by simp))
  have hb01 := hA.trans (hb1.mono (by simp))
  have hs1 : w.heap.size + 1 ≤ w1.heap.size := by have := hb1.size; simp at this; omega
  go_wp2_with fail
  refine (slices_CloneO l cA n cc B w1 (hc.below (hb01.mono hB)) (by omega) hn).mono ?_
  rintro e w2 ⟨v, rfl, hown, hb2⟩
  obtain ⟨cA1, cc1, rfl, hlc⟩ := own_form hown
  have HROW := Lib.hid hown
  have hb02 : Below w.heap.size w w2 := hb01.trans (hb2.mono (by omega))
  have HBX := Lib.hid (HB1.out.below hb2 (by omega))
  have hs2 := hb2.size
  obtain ⟨C1, hC1⟩ : ∃ C1, C1 = thC (.slice cA1 n cc1) 0 (fun _ => 0) (.slice none 0 0) := ⟨_, rfl⟩
  obtain ⟨C2, hC2⟩ : ∃ C2, C2 = thC (.slice cA1 n cc1) 0 (st0 ar []).r (.slice none 0 0) := ⟨_, rfl⟩
  have HS := Lib.hid (show splice C1 2 (ar.map (Value.int .i64)) = C2 by rw [hC1, hC2]; exact thC_splice _ _ _ _ (by rw [HL.out]; omega))
  have HL1 := Lib.hid (show C1.length = 27 by rw [hC1]; exact thC_len)
  have HL2 := Lib.hid (show C2.length = 27 by rw [hC2]; exact thC_len)
  have HO1 := Lib.hid (show ∀ v ∈ C1, v.oneCell' = true by rw [hC1]; exact thC_one rfl rfl)
  have HO2 := Lib.hid (show ∀ v ∈ C2, v.oneCell' = true by rw [hC2]; exact thC_one rfl rfl)
  have HE1 := Lib.hid (show C1.toArray = #[Value.slice cA1 n cc1, .int .i64 0, .int .i64 0, .int .i64 0, .int .i64 0, .int .i64 0, .int .i64 0, .int .i64 0, .int .i64 0, .int .i64 0, .int .i64 0, .int .i64 0, .int .i64 0, .int .i64 0, .int .i64 0, .int .i64 0, .int .i64 0, .int .i64 0, .int .i64 0, .int .i64 0, .int .i64 0, .int .i64 0, .int .i64 0, .int .i64 0, .int .i64 0, .int .i64 0, .slice none 0 0] by rw [hC1]; exact thA_zero _ _)
  have HC2 := Lib.hid hC2
  have HB2 := Lib.hid (show Box (w2.alloc (.cells C0.toArray 72)) w2.heap.size 72 C0 from Box.new _ _ _)
  have HPOS := Lib.hid (show ∀ w3, Below w2.heap.size w2 w3 → 0 < (ar.map (Value.int .i64)).length → ∃ ad, A = some ad ∧ ∀ j v, (ar.map (Value.int .i64))[j]? = some v → w3.cell? (ad.add j) = some v from by
    intro w3 hw3 hl
    have hm0 : 0 < m := by rw [List.length_map, HL.out] at hl; exact hl
    obtain ⟨bb, oo, rfl, hlt, hcl⟩ := ((hr.below (hb02.mono hB)).below (hw3.mono (by omega))).at_ hm0
    refine ⟨_, rfl, fun j v hj => ?_⟩
    have hjl : j < m := by have := (List.getElem?_eq_some_iff.1 hj).1; rw [List.length_map, HL.out] at this; exact this
    rw [Addr.add_lit, hcl j (by omega)]
    exact hj)
  clear hC1 hC2 hown
  go_wp2_with (first
    | (refine store_box rfl rfl 72 (.tmp 6) (.tmp 17) rfl w2.heap.size C1 rfl (congrArg Value.agg HE1.out.symm) 72 C0 (by have := HB2.out; rw [HZ.out] at this; exact this) (by rw [HL1.out]; exact HIN.out) (by rw [HL0.out, HL1.out]) HO1.out ?_; intro w3 HG3 hg3; have hB3 : Below w2.heap.size w2 w3 := below_set ((Below.refl _ _).alloc (Nat.le_refl _) _) hg3 (Nat.le_refl _) (by simp))
    | (refine wpList_copy_splice rfl _ _ 22 22 rfl 3 Tryz.underlying22 (by kernel_rfl) _ _ _ _ _ _ rfl rfl w2.heap.size 2 C1 72 HG3.out (ar.map (Value.int .i64)) (by rw [List.length_map, HL.out]; exact (Nat.min_eq_left (by omega)).symm) (fun hl => ⟨rfl, HPOS.out w3 hB3 hl⟩) (by rw [List.length_map, HL.out, HL1.out]; omega) (one_ints _ _) w2.heap.size w2 hB3 (Nat.le_refl _) ?_; intro w4 HG4 hB4)
    | (refine wpList_load_row rfl 72 _ rfl w2.heap.size rfl 72 C2.toArray (0, 0) _ (by rw [← HS.out]; exact HG4.out) Tryz.underlying72 rfl (by rw [List.size_toArray, HL2.out]; exact HIN.out) ?_)
    | (refine store_box rfl rfl 72 (.tmp 4) (.tmp 22) rfl w.heap.size C2 rfl rfl 72 C0 (HBX.out.below hB4 (by omega)) (by rw [HL2.out]; exact HIN.out) (by rw [HL0.out, HL2.out]) HO2.out ?_; intro w5 HG5 hg5))
  refine bodyPost_ret (results_row_tmp rfl _ _ w.heap.size 72 C2.toArray (0, 0) _ rfl HG5.out Tryz.underlying72 rfl (by rw [List.size_toArray, HL2.out]; exact HIN.out)) rfl ?_
  have hb4 : Below w.heap.size w w4 := hb02.trans (hB4.mono (by omega))
  have hb5 : Below w.heap.size w w5 := below_set hb4 hg5 (Nat.le_refl _) hb4.size
  refine ⟨cA1, cc1, by rw [HC2.out]; rfl, ?_, ?_, hb5⟩
  · have h1 : w4.ownsRow w1.heap.size 67 5 (.slice cA1 n cc1) n (cellsO l) := own_below HROW.out hB4
    have h2 : w5.ownsRow w1.heap.size 67 5 (.slice cA1 n cc1) n (cellsO l) := by
      refine h1.kept hg5 ?_
      cases hv : (Value.slice cA1 n cc1).ownBlock with
      | none => exact .inl rfl
      | some k =>
        refine .inr fun he => ?_
        have := (h1.lt _ hv).1
        injection he with he
        omega
    exact Rd.of_own h2
  · intro _ g q hA
    have := (HROW.out.lt g (by rw [hA]; rfl)).1
    omega
end Go.Proofs.YtnchgdjdfhfedaaGreatDoor

set_option linter.unusedSimpArgs false
set_option linter.unusedVariables false
namespace Go.Proofs.YtnchgdjdfhfedaaGreatDoor
open Go.RowKit Go.Ord Go.Baro

set_option maxHeartbeats 1000000 in
theorem run_wrong (w : World) (g : Nat) (vw vt : Value) (Ac : Option Addr) (nc cc : Nat) (q : Int) (A : Option Addr) (n k : Nat) (r : Bool) (hbx : Box w g 37 [vw, .slice Ac nc cc, vt]) (hnc : nc ≤ 8) (hn : n ≤ 9223372036854775807) (hr : r = true ↔ (q < 0 ∨ (nc : Int) ≤ q ∨ 8 < n)) :
    Calls Tryz.prog 57 #[.agg #[.int .i64 q, .slice A n k], .pointer (some ⟨g, 0, none⟩)] w fun e w' => e = .returned (.bool r) ∧ Below w.heap.size w w' := by
  have h0 := (Below.refl w.heap.size w).alloc (Nat.le_refl _) (Obj.cells #[.int .i64 q, .slice A n k] 40)
  have lX := hbx.lt
  have x1 : w.cell? ⟨g, 1, none⟩ = _ := hbx.cell 1
  simp only [List.getElem?_cons_zero, List.getElem?_cons_succ] at x1
  have HR := Lib.hid hr
  clear hr hbx
  by_cases c1 : q < 0
  · go_enter Tryz.func57, Tryz.ntmps57
    go_wp2
    go_ret
    exact ⟨ret_bool (HR.out.2 (.inl c1)).symm, h0⟩
  by_cases c2 : (nc : Int) ≤ q
  · go_enter Tryz.func57, Tryz.ntmps57
    go_wp2
    go_ret
    exact ⟨ret_bool (HR.out.2 (.inr (.inl c2))).symm, h0⟩
  by_cases c3 : 8 < n
  · go_enter Tryz.func57, Tryz.ntmps57
    go_wp2
    go_ret
    refine ⟨ret_bool ?_, h0⟩
    rw [HR.out.2 (.inr (.inr c3))]
    simp; omega
  · go_enter Tryz.func57, Tryz.ntmps57
    go_wp2
    go_ret
    refine ⟨ret_bool ?_, h0⟩
    cases r with
    | false => simp; omega
    | true => have := HR.out.1 rfl; omega

set_option maxHeartbeats 2000000 in
theorem run_IndexFunc (w : World) (g : Nat) (vw vt : Value) (Ac : Option Addr) (nc cc : Nat) (A : Option Addr) (n k B : Nat) (m : Mc) (t : List Cl) (r : Bool) (hbx : Box w g 37 [vw, .slice Ac nc cc, vt]) (hl : RLs w B A n t) (hB : B ≤ w.heap.size) (hn : n ≤ 20) (hm : m.cs.length = nc) (hnc : nc ≤ 8) (hok : ∀ c ∈ t, okCa c) (hr : r = true ↔ ¬ ∀ c ∈ t, okCl m c) :
    Calls Tryz.prog 73 #[.slice A n k, .func (.func 57) #[] #[.pointer (some ⟨g, 0, none⟩)]] w fun e w' => (∃ i : Int, e = .returned (.int .i64 i) ∧ -1 ≤ i ∧ i ≤ 20 ∧ (r = true ↔ 0 ≤ i)) ∧ Below w.heap.size w w' := by
  have h0 := Below.refl w.heap.size w
  have LT := Lib.hid hl.len
  have HR := Lib.hid hr
  have HOK := Lib.hid hok
  have HM := Lib.hid hm
  clear hr hok hm
  go_enter Tryz.func73, Tryz.ntmps73
  go_wp2
  go_loopw [8] (fun i wr => ∃ j : Nat, j ≤ n ∧ i = .int .i64 j ∧ Hid (∀ c ∈ t.take j, okCl m c) ∧ Below w.heap.size w wr) (fun i _ => n - (intOf i).toNat)
  case atStart => exact ⟨0, Nat.zero_le _, rfl, by intro c h; simp at h, h0⟩
  case round =>
    obtain ⟨j, hj, rfl, HC, hbel⟩ := hrel
    have hsz := hbel.size
    have hbw := hbx.below hbel hbx.lt
    by_cases hjm : j < n
    · obtain ⟨b, o, q, A2, n2, k2, ar, rfl, hbB, hq0, hq1, hlk2, hri, HX, hmem⟩ := hl.val hjm
      have e0 := (hbel.cell (p := ⟨b, o + j * 2, none⟩) (by show b < _; omega)).trans hq0
      have e1 := (hbel.cell (p := ⟨b, o + j * 2 + 1, none⟩) (by show b < _; omega)).trans hq1
      have hca := HOK.out _ hmem
      have hn2 : n2 ≤ 9223372036854775807 := by have := hca.2.1; have h2 := hri.len; dsimp only at this; omega
      obtain ⟨r', hr'⟩ : ∃ r' : Bool, r' = true ↔ (q < 0 ∨ (nc : Int) ≤ q ∨ 8 < n2) := ⟨decide (q < 0 ∨ (nc : Int) ≤ q ∨ 8 < n2), by simp⟩
      have HR' := Lib.hid hr'
      have HMem := Lib.hid hmem
      have HRI := Lib.hid hri.len
      clear hr' hmem hq0 hq1 hca hri
      go_wp2_with fail
      refine (run_wrong wr g vw vt Ac nc cc q A2 n2 k2 r' hbw hnc hn2 HR'.out).mono ?_
      rintro e w1 ⟨rfl, hb1⟩
      have hb2 := hbel.trans (hb1.mono hsz)
      have HCL : Hid (okCl m ⟨q, ar⟩ ↔ r' = false) := by
        show _ ↔ _
        unfold okCl
        dsimp only
        rw [HM.out, HRI.out]
        have := HR'.out
        cases r' <;> simp at this ⊢ <;> omega
      cases r' with
      | true =>
        go_wp2
        go_ret
        refine ⟨⟨j, rfl, by omega, by omega, ?_⟩, hb2⟩
        refine ⟨fun _ => by omega, fun _ => HR.out.2 fun hall => ?_⟩
        have := HCL.out.1 (hall _ HMem.out)
        cases this
      | false =>
        go_wp2
        go_roundw
        case rel =>
          refine ⟨j + 1, by omega, by go_num, ?_, hb2⟩
          intro d hd
          rw [at_take HX.out] at hd
          rcases List.mem_append.1 hd with hd | hd
          · exact HC.out d hd
          · rw [List.mem_singleton.1 hd]; exact HCL.out.2 (by first | rfl | trivial)
        case measure => simp [intOf]; omega
    · obtain rfl : n = j := by omega
      have HC2 := HC.out
      rw [List.take_of_length_le (by rw [LT.out]; omega)] at HC2
      have HC := Lib.hid HC2
      clear HC2
      go_wp2
      go_ret
      refine ⟨⟨-1, rfl, by omega, by omega, ?_⟩, hbel⟩
      refine ⟨fun hrt => absurd HC.out (HR.out.1 hrt), fun h => by omega⟩

set_option maxHeartbeats 1000000 in
theorem run_ContainsFunc (w : World) (g : Nat) (vw vt : Value) (Ac : Option Addr) (nc cc : Nat) (A : Option Addr) (n k B : Nat) (m : Mc) (t : List Cl) (r : Bool) (hbx : Box w g 37 [vw, .slice Ac nc cc, vt]) (hl : RLs w B A n t) (hB : B ≤ w.heap.size) (hn : n ≤ 20) (hm : m.cs.length = nc) (hnc : nc ≤ 8) (hok : ∀ c ∈ t, okCa c) (hr : r = true ↔ ¬ ∀ c ∈ t, okCl m c) :
    Calls Tryz.prog 58 #[.slice A n k, .func (.func 57) #[] #[.pointer (some ⟨g, 0, none⟩)]] w fun e w' => e = .returned (.bool r) ∧ Below w.heap.size w w' := by
  have HC := Lib.hid (run_IndexFunc w g vw vt Ac nc cc A n k B m t r hbx hl hB hn hm hnc hok hr)
  clear hbx hl hok hr hm
  go_enter Tryz.func58, Tryz.ntmps58
  go_wp2_with fail
  refine HC.out.mono ?_
  rintro e w1 ⟨⟨i, rfl, h1, h2, h3⟩, hb1⟩
  have H3 := Lib.hid h3
  clear h3
  go_wp2
  go_ret
  refine ⟨ret_bool ?_, hb1⟩
  have := H3.out
  cases r <;> simp at this ⊢ <;> omega

set_option maxRecDepth 100000 in
set_option maxHeartbeats 2000000 in
theorem run_May : MaySpec := by
  intro w hT Aw nw cw Ac nc cc At nt ct m r hm hr
  obtain ⟨q1, q2, q3, q4, q5, q6, ⟨q7, q7'⟩, ⟨q8, q8'⟩, ⟨q9, q9'⟩⟩ := hm
  have HR := Lib.hid hr
  have L1 := Lib.hid q1.len
  have L2 := Lib.hid q2.len
  have L3 := Lib.hid q3.len
  have H4 := Lib.hid q4
  have H5 := Lib.hid q5
  have H6 := Lib.hid q6
  have HT := Lib.hid hT
  clear hr q4 q5 q6 hT
  have h0 : Below w.heap.size w w := Below.refl _ _
  have hA := h0.alloc (Nat.le_refl _) (Obj.cells #[.slice Aw nw cw, .slice Ac nc cc, .slice At nt ct] 37)
  have bX := Box.newAt w 37 [.slice Aw nw cw, .slice Ac nc cc, .slice At nt ct] w.heap.size rfl
  by_cases hw : 200 < nw
  · have hv : r = false := by
      cases r with
      | false => rfl
      | true => have := (HR.out.1 rfl).1; rw [L1.out] at this; omega
    go_enter Tryz.func46, Tryz.ntmps46
    go_wp2
    go_ret
    exact ⟨by first | rfl | exact ret_bool hv.symm, hA⟩
  by_cases hc : 8 < nc
  · have hv : r = false := by
      cases r with
      | false => rfl
      | true => have := (HR.out.1 rfl).2.1; rw [L2.out] at this; omega
    go_enter Tryz.func46, Tryz.ntmps46
    go_wp2
    go_ret
    exact ⟨by first | rfl | exact ret_bool hv.symm, hA⟩
  by_cases ht : 4 < nt
  · have hv : r = false := by
      cases r with
      | false => rfl
      | true => have := (HR.out.1 rfl).2.2.1; rw [L3.out] at this; omega
    go_enter Tryz.func46, Tryz.ntmps46
    go_wp2
    go_ret
    exact ⟨by first | rfl | exact ret_bool hv.symm, hA⟩
  go_enter Tryz.func46, Tryz.ntmps46
  go_wp2
  go_loopw [27] (fun i wr => ∃ j : Nat, j ≤ nc ∧ i = .int .i64 j ∧ Hid (∀ c ∈ m.cs.take j, okC c) ∧ Box wr w.heap.size 37 [.slice Aw nw cw, .slice Ac nc cc, .slice At nt ct] ∧ Below w.heap.size w wr) (fun i _ => nc - (intOf i).toNat)
  case atStart => exact ⟨0, Nat.zero_le _, rfl, by intro c h; simp at h, bX, hA⟩
  case round =>
    obtain ⟨j, hj, rfl, HC, bX, hbel⟩ := hrel
    have hsz := hbel.size
    have lX := bX.lt
    have x0 : wr.cell? ⟨w.heap.size, 0, none⟩ = _ := bX.cell 0
    have x1 : wr.cell? ⟨w.heap.size, 1, none⟩ = _ := bX.cell 1
    have x2 : wr.cell? ⟨w.heap.size, 2, none⟩ = _ := bX.cell 2
    simp only [List.getElem?_cons_zero, List.getElem?_cons_succ] at x0 x1 x2
    by_cases hjm : j < nc
    · obtain ⟨b, o, A', n', k, c, rfl, hbB, hcell, hlk, hro, HX, hmem⟩ := (q2.below hbel).val hjm
      obtain ⟨hn', HI⟩ := H5.out c hmem
      rw [hro.len] at hn'
      obtain ⟨r', hr'⟩ : ∃ r' : Bool, r' = true ↔ okC c := ⟨decide (okC c), by simp⟩
      have HR' := Lib.hid hr'
      have HMem := Lib.hid hmem
      clear hr' HI hmem
      go_wp2_with fail
      refine (vm_May c A' n' k r' wr _ (HT.out.below hbel HT.out.lt) hro hsz hn' HR'.out).mono ?_
      rintro e w1 ⟨rfl, hb1⟩
      cases r' with
      | false =>
        go_wp2
        go_ret
        refine ⟨?_, hbel.trans (hb1.mono hsz)⟩
        cases r with
        | false => rfl
        | true => have := HR'.out.2 ((HR.out.1 rfl).2.2.2.1 c HMem.out); cases this
      | true =>
        go_wp2
        go_roundw
        case rel =>
          refine ⟨j + 1, by omega, by go_num, ?_, bX.below hb1 lX, hbel.trans (hb1.mono hsz)⟩
          intro d hd
          rw [at_take HX.out] at hd
          rcases List.mem_append.1 hd with hd | hd
          · exact HC.out d hd
          · rw [List.mem_singleton.1 hd]; exact HR'.out.1 (by first | rfl | trivial)
        case measure => simp [intOf]; omega
    · obtain rfl : nc = j := by omega
      have HC2 := HC.out
      rw [List.take_of_length_le (by rw [L2.out]; omega)] at HC2
      have HC := Lib.hid HC2
      clear HC2
      go_wp2
      go_loopw [39] (fun i wr => ∃ j : Nat, j ≤ nt ∧ i = .int .i64 j ∧ Hid (∀ t ∈ m.ts.take j, t.length ≤ 20 ∧ ∀ c ∈ t, okCl m c) ∧ Box wr w.heap.size 37 [.slice Aw nw cw, .slice Ac nc cc, .slice At nt ct] ∧ Below w.heap.size w wr) (fun i _ => nt - (intOf i).toNat)
      case atStart => exact ⟨0, Nat.zero_le _, rfl, by intro c h; simp at h, bX, hbel⟩
      case round =>
        clear x0 x1 x2 lX bX hsz hbel
        obtain ⟨j, hj, rfl, HTS, bX, hbel⟩ := hrel
        have hsz := hbel.size
        have lX := bX.lt
        have x0 : wr.cell? ⟨w.heap.size, 0, none⟩ = _ := bX.cell 0
        have x1 : wr.cell? ⟨w.heap.size, 1, none⟩ = _ := bX.cell 1
        have x2 : wr.cell? ⟨w.heap.size, 2, none⟩ = _ := bX.cell 2
        simp only [List.getElem?_cons_zero, List.getElem?_cons_succ] at x0 x1 x2
        by_cases hjm : j < nt
        · obtain ⟨b, o, A', n', k, t, rfl, hbB, hcell0, hlk, hrl, HX, hmem⟩ := q3.val hjm
          have hcell := (hbel.cell (p := ⟨b, o + j, none⟩) hbB).trans hcell0
          clear hcell0
          obtain ⟨hn', HI⟩ := H6.out t hmem
          rw [hrl.len] at hn'
          have LT := Lib.hid hrl.len
          have HI := Lib.hid HI
          have HMem := Lib.hid hmem
          clear hmem
          by_cases h20 : 20 < n'
          · go_wp2
            go_ret
            refine ⟨?_, hbel⟩
            cases r with
            | false => rfl
            | true => have := ((HR.out.1 rfl).2.2.2.2 t HMem.out).1; rw [LT.out] at this; omega
          obtain ⟨r', hr'⟩ : ∃ r' : Bool, r' = true ↔ ¬ ∀ c ∈ t, okCl m c := ⟨@decide (¬ ∀ c ∈ t, okCl m c) (Classical.propDecidable _), by simp⟩
          have HR' := Lib.hid hr'
          clear hr'
          go_wp2_with fail
          refine (run_ContainsFunc wr w.heap.size (.slice Aw nw cw) (.slice _ nt ct) Ac nc cc A' n' k w.heap.size m t r' bX (hrl.below hbel) hsz (by omega) L2.out (by omega) HI.out HR'.out).mono ?_
          rintro e w1 ⟨rfl, hb1⟩
          cases r' with
          | true =>
            go_wp2
            go_ret
            refine ⟨?_, hbel.trans (hb1.mono hsz)⟩
            cases r with
            | false => rfl
            | true => exact absurd ((HR.out.1 rfl).2.2.2.2 t HMem.out).2 (HR'.out.1 (by first | rfl | trivial))
          | false =>
            go_wp2
            go_roundw
            case rel =>
              refine ⟨j + 1, by omega, by go_num, ?_, bX.below hb1 lX, hbel.trans (hb1.mono hsz)⟩
              intro d hd
              rw [at_take HX.out] at hd
              rcases List.mem_append.1 hd with hd | hd
              · exact HTS.out d hd
              · rw [List.mem_singleton.1 hd]
                refine ⟨by rw [LT.out]; omega, ?_⟩
                by_cases hall : ∀ c ∈ t, okCl m c
                · exact hall
                · have := HR'.out.2 hall; simp at this
            case measure => simp [intOf]; omega
        · obtain rfl : nt = j := by omega
          have HT2 := HTS.out
          rw [List.take_of_length_le (by rw [L3.out]; omega)] at HT2
          have HTS := Lib.hid HT2
          clear HT2
          go_wp2
          go_ret
          refine ⟨ret_bool ?_, hbel⟩
          exact (HR.out.2 ⟨by rw [L1.out]; omega, by rw [L2.out]; omega, by rw [L3.out]; omega, HC.out, HTS.out⟩).symm
end Go.Proofs.YtnchgdjdfhfedaaGreatDoor
