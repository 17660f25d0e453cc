/- Of this claim's own texts these, one behind the other: Asm4, Count1, RunPure6, Vm6. No statement of the seat is proved here; no condition but those that stand at the theorems. -/
import Derived.Test.YtnchgdjdfhfedaaDoorPartAQ
import Derived.Test.YtnchgdjdfhfedaaDoorPartAR
import Derived.Test.YtnchgdjdfhfedaaDoorPartAK
import Derived.Test.YtnchgdjdfhfedaaDoorPartAN
import Derived.Test.YtnchgdjdfhfedaaDoorPartAG
import Derived.Laws.CopyOwn
set_option linter.unusedSimpArgs false
set_option linter.unusedVariables false
namespace Go.Proofs.YtnchgdjdfhfedaaDoor
open Go.RowKit Go.Ord Go.Baro Go.Maps

theorem cellsJ_at (l : List (Int × Nm)) : ∀ (i : Nat) (j : Int × Nm), l[i]? = some j → (cellsJ l)[i * 2]? = some (.int .i64 j.1) ∧ (cellsJ l)[i * 2 + 1]? = some (nmV j.2) := by
  induction l with
  | nil => intro i j h; simp at h
  | cons f l ih =>
    intro i j h
    have hc : cellsJ (f :: l) = jmpV f ++ cellsJ l := rfl
    rw [hc]
    cases i with
    | zero => simp at h; subst h; simp [jmpV]
    | succ i =>
      have := ih i j (by simpa using h)
      rw [List.getElem?_append_right (by simp [jmpV]; omega), List.getElem?_append_right (by simp [jmpV]; omega)]
      simp [jmpV, show (i + 1) * 2 - 2 = i * 2 by omega, show (i + 1) * 2 + 1 - 2 = i * 2 + 1 by omega, this]
theorem cellsO_set : ∀ (l : List Ins) (i k : Nat) (o o' : Ins), l[i]? = some o → (∃ v, (insV o).set k v = insV o') → k < 5 → ∀ v, (insV o).set k v = insV o' → (cellsO l).set (i * 5 + k) v = cellsO (l.set i o')
  | [], i, k, o, o', h, _, _, _, _ => by simp at h
  | f :: l, 0, k, o, o', h, _, hk, v, hv => by
    simp at h
    subst h
    have hc : ∀ g : Ins, cellsO (g :: l) = insV g ++ cellsO l := fun _ => rfl
    rw [List.set_cons_zero, hc, hc, Nat.zero_mul, Nat.zero_add, List.set_append_left _ _ (by simp [insV]; exact hk), hv]
  | f :: l, i + 1, k, o, o', h, hh, hk, v, hv => by
    have hc : ∀ (g : Ins) (t : List Ins), cellsO (g :: t) = insV g ++ cellsO t := fun _ _ => rfl
    rw [List.set_cons_succ, hc, hc, List.set_append_right _ _ (by simp [insV]; omega), ← cellsO_set l i k o o' (by simpa using h) hh hk v hv]
    congr 2
    simp [insV]
    omega
set_option maxRecDepth 100000 in
set_option maxHeartbeats 2000000 in
theorem asm_Code (w : World) (hT : Tab w) (B b n : Nat) (s : Bs) (c : List Ins) (h : BdAt w B b s n) (hf : s.fin = some c) (hj0 : ∀ j ∈ s.jmps, 0 ≤ j.1 ∧ j.2.length ≤ 1000) (hjl : s.jmps.length ≤ 1000) :
    Calls Tryd.prog 48 #[.pointer (some ⟨b, 0, none⟩)] w fun e w' => ∃ v, e = .returned (.tuple #[v, .int .i64 0]) ∧ w'.ownsRow w.heap.size 73 5 v c.length (cellsO c) ∧ Below w.heap.size w w' := by
  obtain ⟨cv, jv, rm, lm, h⟩ := h
  obtain ⟨f1, f2, f3⟩ := Bs.fin_some hf
  have hcl := rslv_len _ _ _ _ f2
  have hlt := h.lt
  obtain ⟨A, k, rfl, hlc⟩ := own_form h.code
  obtain ⟨Aj, kj, rfl, hlj⟩ := own_form h.jmps
  have c0 : w.cell? ⟨b, 0, none⟩ = some (.slice A s.code.length k) := h.box.cell 0
  have c2 : w.cell? ⟨b, 2, none⟩ = some (.map (some lm)) := h.box.cell 2
  have c3 : w.cell? ⟨b, 3, none⟩ = some (.slice Aj s.jmps.length kj) := h.box.cell 3
  have c4 : w.cell? ⟨b, 4, none⟩ = some (.bool false) := by have := h.box.cell 4; rw [f1] at this; exact this
  have HF2 := Lib.hid f2
  have HF3 := Lib.hid f3
  have HCL := Lib.hid hcl
  have hq200 : s.code.length ≤ 200 := by rw [← hcl]; exact f3.1
  have HB := Lib.hid h
  have HT := Lib.hid hT
  have HJ := Lib.hid hj0
  obtain ⟨q, hq⟩ : ∃ q, q = s.code.length := ⟨_, rfl⟩
  obtain ⟨m, hm⟩ : ∃ m, m = s.jmps.length := ⟨_, rfl⟩
  have HRO := Lib.hid (show RO w w.heap.size A q s.code by rw [hq]; exact Rd.of_own h.code)
  have HRJ := Lib.hid (show Rd w w.heap.size 2 Aj m (cellsJ s.jmps) by rw [hm]; exact Rd.of_own h.jmps)
  rw [← hq] at c0 hq200 hlc
  rw [← hm] at c3 hjl hlj
  have HQ := Lib.hid hq
  have HM := Lib.hid hm
  clear h hf f1 f2 f3 hcl hT hj0 hq hm
  go_enter Tryd.func48, Tryd.ntmps48
  go_wp2_with fail
  refine (slices_CloneO s.code A q k w.heap.size _ HRO.out (Nat.le_refl _) hq200).mono ?_
  rintro e w1 ⟨v, rfl, hown, hb1⟩
  obtain ⟨A1, k1, rfl, hlk1⟩ := own_form hown
  have HO := Lib.hid hown
  have d3 : w1.cell? ⟨b, 3, none⟩ = some (.slice Aj m kj) := (hb1.cell hlt).trans c3
  have hlt1 : b < w1.heap.size := by have := hb1.size; omega
  clear hown
  go_wp2
  go_loopw [24] (fun i wr => ∃ (j : Nat) (cj : List Ins), j ≤ m ∧ i = .int .i64 j ∧ Hid (rslv s.labs (s.jmps.take j) s.code = some cj) ∧ Hid (wr.ownsRow w.heap.size 73 5 (.slice A1 q k1) q (cellsO cj)) ∧ Below w.heap.size w wr) (fun i _ => m - (intOf i).toNat)
  case atStart => exact ⟨0, s.code, Nat.zero_le _, rfl, rfl, HO.out, hb1⟩
  case round =>
    obtain ⟨j, cj, hj, rfl, HRS, HOW, hbr⟩ := hrel
    have hszr := hbr.size
    by_cases h1 : j < m
    · obtain ⟨⟨ja, jl⟩, hjx⟩ : ∃ x, s.jmps[j]? = some x := ⟨_, List.getElem?_eq_getElem (by rw [← HM.out]; exact h1)⟩
      obtain ⟨tv, o, ci, r1, r2, r3, r4, r5, r6⟩ := rslv_at s.labs s.jmps s.code HF2.out j (ja, jl) hjx
      obtain rfl : ci = cj := by have := HRS.out; rw [r3] at this; injection this
      dsimp only at r1 r4 r5 r6
      obtain ⟨hja0, hjl0⟩ := HJ.out _ (List.mem_of_getElem? hjx)
      dsimp only at hja0 hjl0
      obtain ⟨jn, rfl⟩ : ∃ jn : Nat, ja = jn := ⟨ja.toNat, by omega⟩
      rw [Int.toNat_natCast] at r4 r5 r6
      have hcil : ci.length = q := by rw [rslv_len _ _ _ _ r3, ← HQ.out]
      have hjn : jn < q := by have := (List.getElem?_eq_some_iff.1 r4).1; omega
      obtain ⟨gj, oj, rfl, hgj, hcj⟩ := Rd.at_ (HRJ.out.below hbr) (by omega)
      obtain ⟨j1, j2⟩ := cellsJ_at s.jmps j _ hjx
      have e1 : wr.cell? ⟨gj, oj + j * 2, none⟩ = some (.int .i64 jn) := by rw [hcj _ (by omega), j1]
      have e2 : wr.cell? ⟨gj, oj + j * 2 + 1, none⟩ = some (.string ⟨jl.toArray⟩) := by rw [Nat.add_assoc, hcj _ (by omega), j2]; rfl
      obtain ⟨g, k9, hv9, hg0, hg1, _⟩ := own_some HOW.out (by omega)
      injection hv9 with hA1 _ hk9
      subst hA1
      subst hk9
      obtain ⟨kk, ka, kb, kc, kd⟩ := o
      have hco := fun i hi => cellsO_at ci jn i _ r4 hi
      have hcell := fun i (hi : i < 5) => (World.ownsRow.cellAt HOW.out (jn * 5 + i) (by omega)).trans (hco i hi)
      have g0 : wr.cell? ⟨g, jn * 5, none⟩ = some (.int .i64 kk) := hcell 0 (by omega)
      have g1 : wr.cell? ⟨g, jn * 5 + 1, none⟩ = some (.int .i64 ka) := hcell 1 (by omega)
      have g2 : wr.cell? ⟨g, jn * 5 + 2, none⟩ = some (.int .i64 kb) := hcell 2 (by omega)
      have fz := fun i => World.ownsRow.frozenAt HOW.out i
      have b2 : wr.cell? ⟨b, 2, none⟩ = some (.map (some lm)) := (hbr.cell hlt).trans c2
      have hltr : b < wr.heap.size := by omega
      have HMS := Lib.hid (show MS wr lm n s.labs from by
        obtain ⟨D, ⟨es, ck, hh, h1'⟩, h2⟩ := HB.out.labs
        exact ⟨D, ⟨es, ck, (hbr.block lm HB.out.labs.lt).trans hh, h1'⟩, h2⟩)
      have HR1 := Lib.hid r1
      have HR4 := Lib.hid r4
      have HR5 := Lib.hid r5
      clear r1 r2 r3 r4 r5 r6 hjx hco hcell hcj j1 j2 c0 c2 c3 c4 d3
      have bx := Box.new wr 128 [.int .i64 jn, .string ⟨jl.toArray⟩]
      go_wp2
      refine region_two [0, 1, 2, 3, 4, 5] [6, 7, 8, 9, 10, 11] (by kernel_rfl) (by kernel_rfl) ?_
      simp only [pick, List.map_cons, List.map_nil, List.getD_cons_zero, List.getD_cons_succ]
      have HM2 := Lib.hid (show MS (wr.alloc (Obj.cells #[.int .i64 jn, .string ⟨jl.toArray⟩] 128)).drew lm n s.labs from by
        obtain ⟨D, h1', h2'⟩ := HMS.out.kept (World.grownBy_alloc wr (Obj.cells #[.int .i64 jn, .string ⟨jl.toArray⟩] 128) none) (by simp)
        exact ⟨D, h1', h2'⟩)
      have hst := fun i u => (World.ownsRow.stored HOW.out i u).1.alloc (Obj.cells #[.int .i64 jn, .string ⟨jl.toArray⟩] 128)
      have hbl := fun i u => ((below_at hbr hg0 i u).alloc (by simp; exact hszr) (Obj.cells #[.int .i64 jn, .string ⟨jl.toArray⟩] 128)).drew
      have HST := Lib.hid hst
      have HBL := Lib.hid hbl
      clear hst hbl
      by_cases hk : kk = 10
      · subst hk
        go_wp2_with (refine wp_lookN rfl (.tmp 32) (.tmp 34) rfl lm n s.labs jl rfl HM2.out rfl hjl0 (some tv) HR1.out ?_)
        go_roundw
        case rel =>
          refine ⟨j + 1, ci.set jn ⟨10, tv, kb, kc, kd⟩, by omega, by go_num, ?_, ?_, HBL.out _ _⟩
          · refine Lib.hid ?_; have := HR5.out; simpa [tgt] using this
          · have h8 := HST.out (jn * 5 + 1) (.int .i64 tv)
            rw [cellsO_set ci jn 1 _ ⟨10, tv, kb, kc, kd⟩ HR4.out ⟨_, rfl⟩ (by omega) _ rfl] at h8
            exact Lib.hid h8
        case measure => simp [intOf]; omega
      · have hk' : (kk == 10) = false := by simpa using hk
        go_wp2_with (refine wp_lookN rfl (.tmp 32) (.tmp 34) rfl lm n s.labs jl rfl HM2.out rfl hjl0 (some tv) HR1.out ?_)
        go_roundw
        case rel =>
          refine ⟨j + 1, ci.set jn ⟨kk, ka, tv, kc, kd⟩, by omega, by go_num, ?_, ?_, HBL.out _ _⟩
          · refine Lib.hid ?_; have := HR5.out; simpa [tgt, hk] using this
          · have h8 := HST.out (jn * 5 + 2) (.int .i64 tv)
            rw [cellsO_set ci jn 2 _ ⟨kk, ka, tv, kc, kd⟩ HR4.out ⟨_, rfl⟩ (by omega) _ rfl] at h8
            exact Lib.hid h8
        case measure => simp [intOf]; omega
    · obtain rfl : j = m := by omega
      have hres := HRS.out
      rw [HM.out, List.take_length, HF2.out] at hres
      injection hres with hres
      subst hres
      have hcq : c.length = q := by rw [HCL.out, HQ.out]
      go_wp2_with fail
      refine (vm_May c A1 q k1 true _ wr.heap.size (HT.out.below hbr HT.out.lt) (Rd.of_own HOW.out) (Nat.le_refl _) (by omega) (by simp; exact HF3.out)).mono ?_
      rintro e w2 ⟨rfl, hb2⟩
      go_wp2
      go_ret2
      rw [hcq]
      exact ⟨_, rfl, own_below HOW.out hb2, hbr.trans (hb2.mono hszr)⟩
end Go.Proofs.YtnchgdjdfhfedaaDoor

set_option linter.unusedSimpArgs false
set_option linter.unusedVariables false
namespace Go.Proofs.YtnchgdjdfhfedaaDoor
open Go.RowKit Go.Ord Go.Baro Go.Maps

def nm_number : Nm := [110, 117, 109, 98, 101, 114]
def nm_again : Nm := [97, 103, 97, 105, 110]
def nm_value : Nm := [118, 97, 108, 117, 101]
def nm_zero : Nm := [122, 101, 114, 111]
def nm_given : Nm := [103, 105, 118, 101, 110]
theorem own_cap {w : World} {B : Nat} {e : TypeId} {s n : Nat} {v : Value} {xs : List Value} (h : w.ownsRow B e s v n xs) : ∃ A k, v = .slice A n k ∧ n ≤ k ∧ k ≤ 9223372036854775807 := by
  rcases h.2 with ⟨rfl, rfl⟩ | ⟨g, cap, cur, rfl, _, _, h1, h2, _⟩
  · exact ⟨_, _, rfl, Nat.le_refl _, by omega⟩
  · exact ⟨_, _, rfl, h1, by unfold maxLen at h2; omega⟩
theorem AsmPost.alloc {w : World} {B b n : Nat} {s : Bs} {w' : World} (h : AsmPost w B b s n w') (o : Obj) : AsmPost w B b s n (w'.alloc o) := by
  obtain ⟨⟨cv, jv, rm, lm, h1⟩, h2, h3⟩ := h
  exact ⟨⟨cv, jv, rm, lm, h1.alloc o⟩, h2.trans (Kc.below ((Below.refl _ _).alloc (Nat.le_refl _) o)), h3.alloc h1.hB o⟩
set_option maxHeartbeats 1000000 in
theorem count_assembled (w : World) (hT : Tab w) (B b n : Nat) (s : Bs) (c : List Ins) (h : BdAt w B b s n) (hf : s.fin = some c) (hj0 : ∀ j ∈ s.jmps, 0 ≤ j.1 ∧ j.2.length ≤ 1000) (hjl : s.jmps.length ≤ 1000) :
    Calls Tryd.prog 31 #[.pointer (some ⟨b, 0, none⟩)] w fun e w' => (∃ A m k, e = .returned (.slice A m k) ∧ m ≤ k ∧ k ≤ 9223372036854775807 ∧ QT w' 73 5 A m (cellsO c)) ∧ Below w.heap.size w w' := by
  have HC := Lib.hid (asm_Code w hT B b n s c h hf hj0 hjl)
  clear h hf hj0 hjl hT
  go_enter Tryd.func31, Tryd.ntmps31
  go_wp2_with fail
  refine HC.out.mono ?_
  rintro e w7 ⟨v, rfl, hown, hb7⟩
  obtain ⟨A7, k7, rfl, hk7, hk8⟩ := own_cap hown
  go_wp2
  go_ret
  exact ⟨⟨_, _, _, rfl, hk7, hk8, QT.own hown⟩, hb7⟩
def count_Add_B : Bs := (((((((Bs.new [nm_number]).lab nm_again).load nm_value nm_zero (0)).op3 3 nm_given nm_value nm_number).cas nm_given nm_zero (0) nm_value).unless nm_given nm_again).emit [nm_value])
theorem count_Add_fin : (count_Add_B).fin = some (Cnt.addC) ∧ (∀ j ∈ (count_Add_B).jmps, 0 ≤ j.1 ∧ j.2.length ≤ 1000) ∧ (count_Add_B).jmps.length ≤ 1000 := ⟨by kernel_rfl, by decide +kernel, by decide +kernel⟩
theorem count_Add_new : ∀ (j : Nat) l, ([nm_number] : List Nm)[j]? = some l → nmAsk (Bs.new (([nm_number] : List Nm).take j)).regs l = none := by
  intro j l hl
  rcases (by omega : j = 0 ∨ 1 ≤ j) with rfl | h
  all_goals first | (injection hl with hl; subst hl; kernel_rfl) | (rw [List.getElem?_eq_none (by simpa using h)] at hl; cases hl)
set_option maxRecDepth 100000 in
set_option maxHeartbeats 4000000 in
theorem count_Add : C0Spec 9 (Cnt.addC) := by
  intro w hT
  have HT := Lib.hid hT
  clear hT
  go_enter Tryd.func9, Tryd.ntmps9
  go_wp2_with fail
  have HQ := Lib.hid (show QN (w.alloc (.cells #[nmV nm_number] 9)) (some ⟨w.heap.size, 0, none⟩) 1 [nm_number] from QT.box (s := 1) (n := 1) (Box.newAt w 9 [nmV nm_number] w.heap.size rfl) rfl)
  have hb0 : Below w.heap.size w (w.alloc (.cells #[nmV nm_number] 9)) := (Below.refl w.heap.size w).alloc (Nat.le_refl _) (.cells #[nmV nm_number] 9)
  refine (asm_New (w.alloc (.cells #[nmV nm_number] 9)) (some ⟨w.heap.size, 0, none⟩) 1 1 [nm_number] HQ.out (by omega) (by decide) count_Add_new).mono ?_
  rintro e w1 ⟨b, rfl, H⟩
  obtain ⟨w0, hw0⟩ : ∃ w0, w0 = w.alloc (.cells #[nmV nm_number] 9) := ⟨_, rfl⟩
  clear HQ
  rw [← hw0] at H hb0
  obtain ⟨B, hB⟩ : ∃ B, B = w0.heap.size := ⟨_, rfl⟩
  rw [← hB] at H
  have HBB := Lib.hid hB
  have HB0 := Lib.hid hb0
  have HP0 := Lib.hid H
  clear H hB hb0 hw0
  go_wp2_with fail
  refine (asm_Label _ B b 1 (Bs.new [nm_number]) nm_again HP0.out.1 (by omega) (by decide) (by kernel_rfl)).mono ?_
  rintro e w1 ⟨rfl, H⟩
  have HP1 := Lib.hid (HP0.out.trans H)
  clear H
  go_wp2_with fail
  refine (asm_LoadE _ B b (1 + 1) ((Bs.new [nm_number]).lab nm_again) nm_value nm_zero _ (0) (by first | rfl | omega) HP1.out.1 (by omega) (by decide) (by decide)).mono ?_
  rintro e w2 ⟨rfl, H⟩
  have HP2 := Lib.hid (HP1.out.trans H)
  clear H
  go_wp2_with fail
  refine (asm_Add _ B b ((1 + 1) + 3) (((Bs.new [nm_number]).lab nm_again).load nm_value nm_zero (0)) nm_given nm_value nm_number HP2.out.1 (by omega) (by decide) (by decide) (by decide)).mono ?_
  rintro e w3 ⟨rfl, H⟩
  have HP3 := Lib.hid (HP2.out.trans H)
  clear H
  go_wp2_with fail
  refine (asm_CasE _ B b (((1 + 1) + 3) + 4) ((((Bs.new [nm_number]).lab nm_again).load nm_value nm_zero (0)).op3 3 nm_given nm_value nm_number) nm_given nm_zero _ (0) nm_value (by first | rfl | omega) HP3.out.1 (by omega) (by decide) (by decide) (by decide)).mono ?_
  rintro e w4 ⟨rfl, H⟩
  have HP4 := Lib.hid (HP3.out.trans H)
  clear H
  go_wp2_with fail
  refine (asm_Unless _ B b ((((1 + 1) + 3) + 4) + 4) (((((Bs.new [nm_number]).lab nm_again).load nm_value nm_zero (0)).op3 3 nm_given nm_value nm_number).cas nm_given nm_zero (0) nm_value) nm_given nm_again HP4.out.1 (by omega) (by decide) (by decide)).mono ?_
  rintro e w5 ⟨rfl, H⟩
  have HP5 := Lib.hid (HP4.out.trans H)
  clear H
  go_wp2_with fail
  have HN6 := Lib.hid (show QN (w5.alloc (.cells #[nmV nm_value] 9)) (some ⟨w5.heap.size, 0, none⟩) 1 [nm_value] from QT.box (s := 1) (n := 1) (Box.newAt w5 9 [nmV nm_value] w5.heap.size rfl) rfl)
  have HM6 := Lib.hid (HP5.out.alloc (.cells #[nmV nm_value] 9))
  refine (asm_Emit _ B b (((((1 + 1) + 3) + 4) + 4) + 3) ((((((Bs.new [nm_number]).lab nm_again).load nm_value nm_zero (0)).op3 3 nm_given nm_value nm_number).cas nm_given nm_zero (0) nm_value).unless nm_given nm_again) (some ⟨w5.heap.size, 0, none⟩) 1 1 [nm_value] HM6.out.1 (by omega) HN6.out (by omega) (by decide)).mono ?_
  rintro e w6 ⟨rfl, H⟩
  have HP6 := Lib.hid (HM6.out.trans H)
  clear H
  obtain ⟨f1, f2, f3⟩ := count_Add_fin
  have hb6 : Below w.heap.size w _ := HB0.out.trans (HP6.out.2.2.mono (by rw [HBB.out]; exact HB0.out.size))
  go_wp2_with fail
  refine (count_assembled _ (HT.out.below hb6 HT.out.lt) B b _ (count_Add_B) _ HP6.out.1 f1 f2 f3).mono ?_
  rintro e w7 ⟨⟨A7, m7, k7, rfl, hk7, hk8, hq7⟩, hb7⟩
  go_wp2
  go_ret
  exact ⟨⟨_, _, _, rfl, hk7, hk8, hq7⟩, hb6.trans (hb7.mono hb6.size)⟩
def count_Get_B : Bs := (((Bs.new []).load nm_value nm_zero (0)).emit [nm_value])
theorem count_Get_fin : (count_Get_B).fin = some (Cnt.getC) ∧ (∀ j ∈ (count_Get_B).jmps, 0 ≤ j.1 ∧ j.2.length ≤ 1000) ∧ (count_Get_B).jmps.length ≤ 1000 := ⟨by kernel_rfl, by decide +kernel, by decide +kernel⟩
set_option maxRecDepth 100000 in
set_option maxHeartbeats 4000000 in
theorem count_Get : C0Spec 10 (Cnt.getC) := by
  intro w hT
  have HT := Lib.hid hT
  clear hT
  go_enter Tryd.func10, Tryd.ntmps10
  go_wp2_with fail
  refine (asm_New _ none 0 0 [] (QT.nil _ _ _ _) (by omega) (by simp) (by simp)).mono ?_
  have hb0 : Below w.heap.size w w := Below.refl _ _
  rintro e w1 ⟨b, rfl, H⟩
  obtain ⟨w0, hw0⟩ : ∃ w0, w0 = w := ⟨_, rfl⟩
  rw [← hw0] at H
  have hb0 : Below w.heap.size w w0 := by rw [hw0]; exact Below.refl _ _
  obtain ⟨B, hB⟩ : ∃ B, B = w0.heap.size := ⟨_, rfl⟩
  rw [← hB] at H
  have HBB := Lib.hid hB
  have HB0 := Lib.hid hb0
  have HP0 := Lib.hid H
  clear H hB hb0 hw0
  go_wp2_with fail
  refine (asm_LoadE _ B b 0 (Bs.new []) nm_value nm_zero _ (0) (by first | rfl | omega) HP0.out.1 (by omega) (by decide) (by decide)).mono ?_
  rintro e w1 ⟨rfl, H⟩
  have HP1 := Lib.hid (HP0.out.trans H)
  clear H
  go_wp2_with fail
  have HN2 := Lib.hid (show QN (w1.alloc (.cells #[nmV nm_value] 9)) (some ⟨w1.heap.size, 0, none⟩) 1 [nm_value] from QT.box (s := 1) (n := 1) (Box.newAt w1 9 [nmV nm_value] w1.heap.size rfl) rfl)
  have HM2 := Lib.hid (HP1.out.alloc (.cells #[nmV nm_value] 9))
  refine (asm_Emit _ B b (0 + 3) ((Bs.new []).load nm_value nm_zero (0)) (some ⟨w1.heap.size, 0, none⟩) 1 1 [nm_value] HM2.out.1 (by omega) HN2.out (by omega) (by decide)).mono ?_
  rintro e w2 ⟨rfl, H⟩
  have HP2 := Lib.hid (HM2.out.trans H)
  clear H
  obtain ⟨f1, f2, f3⟩ := count_Get_fin
  have hb6 : Below w.heap.size w _ := HB0.out.trans (HP2.out.2.2.mono (by rw [HBB.out]; exact HB0.out.size))
  go_wp2_with fail
  refine (count_assembled _ (HT.out.below hb6 HT.out.lt) B b _ (count_Get_B) _ HP2.out.1 f1 f2 f3).mono ?_
  rintro e w7 ⟨⟨A7, m7, k7, rfl, hk7, hk8, hq7⟩, hb7⟩
  go_wp2
  go_ret
  exact ⟨⟨_, _, _, rfl, hk7, hk8, hq7⟩, hb6.trans (hb7.mono hb6.size)⟩
theorem eltIntC : Elt Tryd.prog 22 3 (.int .i64 0) 1 8 := Elt.mk' Tryd.underlying22 (by kernel_rfl) rfl (by decide)
set_option maxHeartbeats 1000000 in
theorem count_Words : W0Spec 8 [0] := by
  intro w hT
  clear hT
  go_enter Tryd.func8, Tryd.ntmps8
  go_wp2_with (at_make; refine make_all eltIntC w rfl _ _ rfl w.heap.size _ _ _ _ 1 rfl rfl rfl rfl (by omega) (by omega) (Nat.le_refl _) ?_; intro w1 hown1 hb1 hs1 hg1)
  go_ret
  have hb := hb1 w (Below.refl _ _)
  refine ⟨?_, hb⟩
  have hq := QT.own hown1
  refine ⟨_, _, _, rfl, Nat.le_refl _, by omega, ?_⟩
  rw [madeCells_one _ rfl] at hq
  simpa using hq
instance (x : Int) : Decidable (inW x) := by unfold inW; infer_instance
instance (o : Ins) : Decidable (inI o) := by unfold inI; infer_instance
theorem count_cuOk : CuOk Cnt.cC := ⟨by decide, by decide, by decide, by decide, by decide +kernel, by decide +kernel, by decide, by decide +kernel, by decide +kernel⟩
end Go.Proofs.YtnchgdjdfhfedaaDoor

set_option linter.unusedSimpArgs false
set_option linter.unusedVariables false
namespace Go.Baro

/-- An event with the number of its step. -/
def inSt (st : Nat) (e : Ev) : Ev := { e with st := st }
theorem actL_zero (g : Gs) (st n bg : Nat) (l : Lv) (o a : List Ev) : actL g st n bg l (a ++ o.map (inSt st)) = ⟨(actL ⟨g.w, g.th, []⟩ 0 n bg l o).w, (actL ⟨g.w, g.th, []⟩ 0 n bg l o).th, a ++ (actL ⟨g.w, g.th, []⟩ 0 n bg l o).out.map (inSt st)⟩ := by
  unfold actL
  dsimp only
  by_cases h : (exc l g.w).2.2.2 = true
  · rw [if_pos h, if_pos h]; simp [inSt]
  · rw [if_neg h, if_neg h]
theorem actG_zero (m : Mc) (g : Gs) (st n : Nat) : actG m g st n = ⟨(actG m ⟨g.w, g.th, []⟩ 0 n).w, (actG m ⟨g.w, g.th, []⟩ 0 n).th, g.out ++ (actG m ⟨g.w, g.th, []⟩ 0 n).out.map (inSt st)⟩ := by
  unfold actG
  dsimp only
  cases (g.th n).now with
  | some l =>
    have := actL_zero g st n (g.th n).bg l [] g.out
    simpa using this
  | none =>
    dsimp only
    cases (m.ts[n]?.getD [])[(g.th n).bg]? with
    | none => simp
    | some c =>
      have := actL_zero g st n ((g.th n).bg + 1) (live (m.cs[c.k.toNat]?.getD []) c.ar) [⟨0, n, (g.th n).bg, false, 0, []⟩] g.out
      simpa [inSt] using this
/-- What a thread does, of itself: its state, the words, the events. -/
def actT (m : Mc) (n : Nat) (t : Td) (w : List Int) : Gs := actG m ⟨w, fun _ => t, []⟩ 0 n
theorem actL_T (th : Nat → Td) (w : List Int) (n bg : Nat) (l : Lv) (o : List Ev) (t : Td) : (actL ⟨w, th, []⟩ 0 n bg l o) = ⟨(actL ⟨w, fun _ => t, []⟩ 0 n bg l o).w, putT th n ((actL ⟨w, fun _ => t, []⟩ 0 n bg l o).th n), (actL ⟨w, fun _ => t, []⟩ 0 n bg l o).out⟩ := by
  unfold actL
  dsimp only
  by_cases h : (exc l w).2.2.2 = true
  · rw [if_pos h, if_pos h]; simp [putT]
  · rw [if_neg h, if_neg h]; simp [putT]
theorem putT_self (th : Nat → Td) (n : Nat) : putT th n (th n) = th := by
  funext i
  unfold putT
  by_cases h : i = n
  · rw [if_pos h, h]
  · rw [if_neg h]
theorem actG_T (m : Mc) (th : Nat → Td) (w : List Int) (n : Nat) : actG m ⟨w, th, []⟩ 0 n = ⟨(actT m n (th n) w).w, putT th n ((actT m n (th n) w).th n), (actT m n (th n) w).out⟩ := by
  unfold actT actG
  dsimp only
  cases h : (th n).now with
  | some l => exact actL_T th w n (th n).bg l [] (th n)
  | none =>
    dsimp only
    cases (m.ts[n]?.getD [])[(th n).bg]? with
    | none => simp [putT_self]
    | some c => exact actL_T th w n _ _ _ (th n)
/-- A step of the run, by what the thread does of itself. -/
theorem actG_by (m : Mc) (g : Gs) (st n : Nat) {t' : Td} {W : List Int} {es : List Ev} (h : actT m n (g.th n) g.w = ⟨W, fun i => if i = n then t' else g.th n, es⟩) : actG m g st n = ⟨W, putT g.th n t', g.out ++ es.map (inSt st)⟩ := by
  rw [actG_zero, actG_T, h]; simp
/-- No more calls. -/
theorem actT_idle {m : Mc} {n : Nat} {t : Td} {w : List Int} (h1 : t.now = none) (h2 : (m.ts[n]?.getD [])[t.bg]? = none) : actT m n t w = ⟨w, fun _ => t, []⟩ := by
  unfold actT actG
  dsimp only
  rw [h1]
  dsimp only
  rw [h2]
theorem actT_live {m : Mc} {n : Nat} {t : Td} {l : Lv} {w : List Int} (h1 : t.now = some l) : actT m n t w = actL ⟨w, fun _ => t, []⟩ 0 n t.bg l [] := by
  unfold actT actG
  dsimp only
  rw [h1]
theorem actT_call {m : Mc} {n : Nat} {t : Td} {c : Cl} {w : List Int} (h1 : t.now = none) (h2 : (m.ts[n]?.getD [])[t.bg]? = some c) : actT m n t w = actL ⟨w, fun _ => t, []⟩ 0 n (t.bg + 1) (live (m.cs[c.k.toNat]?.getD []) c.ar) [⟨0, n, t.bg, false, 0, []⟩] := by
  unfold actT actG
  dsimp only
  rw [h1]
  dsimp only
  rw [h2]
  rfl
theorem actL_end {g : Gs} {n bg : Nat} {l l' : Lv} {w' : List Int} {E : Int} {o : List Ev} (h : exc l g.w = (l', w', E, true)) : actL g 0 n bg l o = ⟨w', putT g.th n ⟨none, bg⟩, o ++ [⟨0, n, bg - 1, true, E, l'.t⟩]⟩ := by
  unfold actL; rw [h]; rfl
theorem actL_on {g : Gs} {n bg : Nat} {l l' : Lv} {w' : List Int} {E : Int} {o : List Ev} (h : exc l g.w = (l', w', E, false)) : actL g 0 n bg l o = ⟨w', putT g.th n ⟨some l', bg⟩, o⟩ := by
  unfold actL; rw [h]; rfl
end Go.Baro

set_option linter.unusedSimpArgs false
set_option linter.unusedVariables false
namespace Go.Proofs.YtnchgdjdfhfedaaDoor
open Go.RowKit Go.Ord Go.Baro

theorem thC_zero (cv tv : Value) (p : Int) : thC cv p (fun _ => 0) tv = cv :: .int .i64 p :: (List.replicate 24 (.int .i64 0) ++ [tv]) := by
  unfold thC regV
  congr 3
theorem thC_splice (cv tv : Value) (p : Int) (ar : List Int) (h : ar.length ≤ 24) : splice (thC cv p (fun _ => 0) tv) 2 (ar.map (Value.int .i64)) = thC cv p (fun i => if 0 ≤ i then ar[i.toNat]?.getD 0 else 0) tv := by
  unfold splice thC
  rw [List.take_succ_cons, List.take_succ_cons, List.take_zero, List.length_map, show 2 + ar.length = ar.length + 1 + 1 by omega, List.drop_succ_cons, List.drop_succ_cons]
  rw [List.cons_append, List.cons_append, List.nil_append, List.drop_append_of_le_length (by rw [regV_len]; exact h), ← List.append_assoc]
  congr 3
  refine List.ext_getElem? fun j => ?_
  by_cases hj : j < 24
  · rw [regV_at _ hj]
    by_cases hja : j < ar.length
    · rw [List.getElem?_append_left (by simpa using hja), List.getElem?_map, List.getElem?_eq_getElem hja]
      simp [List.getElem?_eq_getElem hja]
    · rw [List.getElem?_append_right (by simp; omega), List.getElem?_drop, List.length_map, show ar.length + (j - ar.length) = j by omega, regV_at _ hj]
      simp [List.getElem?_eq_none (show ar.length ≤ j by omega)]
  · rw [List.getElem?_eq_none (by simp [regV_len]; omega), List.getElem?_eq_none (by rw [regV_len]; omega)]

theorem thA_zero (cv tv : Value) : (thC cv 0 (fun _ => 0) tv).toArray = #[cv, .int .i64 0, .int .i64 0, .int .i64 0, .int .i64 0, .int .i64 0, .int .i64 0, .int .i64 0, .int .i64 0, .int .i64 0, .int .i64 0, .int .i64 0, .int .i64 0, .int .i64 0, .int .i64 0, .int .i64 0, .int .i64 0, .int .i64 0, .int .i64 0, .int .i64 0, .int .i64 0, .int .i64 0, .int .i64 0, .int .i64 0, .int .i64 0, .int .i64 0, tv] := by rw [thC_zero]; simp [List.replicate]

/-- The zero value of a thread. -/
def thZ : List Value := thC (.slice none 0 0) 0 (fun _ => 0) (.slice none 0 0)
theorem thZ_arr : thZ.toArray = #[Value.slice none 0 0, .int .i64 0, .int .i64 0, .int .i64 0, .int .i64 0, .int .i64 0, .int .i64 0, .int .i64 0, .int .i64 0, .int .i64 0, .int .i64 0, .int .i64 0, .int .i64 0, .int .i64 0, .int .i64 0, .int .i64 0, .int .i64 0, .int .i64 0, .int .i64 0, .int .i64 0, .int .i64 0, .int .i64 0, .int .i64 0, .int .i64 0, .int .i64 0, .int .i64 0, .slice none 0 0] := thA_zero _ _

set_option maxRecDepth 100000 in
set_option maxHeartbeats 4000000 in
theorem vm_Begin_no (w : World) (hT : Tab w) (l : List Ins) (ar : List Int) (cA A : Option Addr) (n cc m c B : Nat) (E : Int) (hc : RO w B cA n l) (hB : B ≤ w.heap.size) (hn : n ≤ 9223372036854775807) (hm : m ≤ 9223372036854775807) (hE : (¬ okC l ∧ E = 4) ∨ (okC l ∧ 8 < m ∧ E = 1)) :
    Calls Tryd.prog 67 #[.slice cA n cc, .slice A m c] w fun e w' => e = .returned (.tuple #[.agg thZ.toArray, .int .i64 E]) ∧ Below w.heap.size w w' := by
  have h0 : Below w.heap.size w w := Below.refl _ _
  have bx0 : Box (w.alloc (.cells thZ.toArray 84)) w.heap.size 84 thZ := Box.new w _ _
  have l0 : thZ.length = 27 := thC_len
  have o0 : ∀ v ∈ thZ, v.oneCell' = true := thC_one rfl rfl
  have hin : (Tryd.prog.info? 84).map (·.size) = some 27 := by kernel_rfl
  have hA := h0.alloc (Nat.le_refl _) (Obj.cells thZ.toArray 84)
  have hTA := hT.below hA hT.lt
  have hcA := hc.below (hA.mono hB)
  obtain ⟨C0, hC0⟩ : ∃ C0, C0 = thZ := ⟨_, rfl⟩
  have hZ := thZ_arr
  rw [← hC0] at bx0 l0 o0 hA hTA hcA hZ ⊢
  rw [hZ] at hA hTA hcA bx0
  have HL0 := Lib.hid l0
  have HO0 := Lib.hid o0
  have HIN := Lib.hid hin
  have HZ := Lib.hid hZ
  clear l0 o0 hin hC0 hZ
  rcases hE with ⟨hno, rfl⟩ | ⟨hok, h8, rfl⟩
  · have HNO := Lib.hid hno
    clear hno
    go_enter Tryd.func67, Tryd.ntmps67
    go_wp2_with fail
    refine (vm_May l cA n cc false _ B hTA hcA (by simp; omega) hn (by simp; exact HNO.out)).mono ?_
    rintro e w1 ⟨rfl, hb1⟩
    have HB1 := Lib.hid (bx0.below hb1 (by simp))
    go_wp2_with (refine store_box rfl rfl 84 (.tmp 4) (.tmp 10) rfl w.heap.size C0 rfl (congrArg Value.agg HZ.out.symm) 84 C0 (by have := HB1.out; exact this) (by rw [HL0.out]; exact HIN.out) rfl HO0.out ?_; intro w2 HG2 hg2)
    refine bodyPost_ret (results_row_tmp rfl _ _ w.heap.size 84 C0.toArray (0, 0) _ rfl HG2.out Tryd.underlying84 rfl (by rw [List.size_toArray, HL0.out]; exact HIN.out)) rfl ?_
    have hb2 := hA.trans (hb1.mono (by simp))
    exact ⟨rfl, below_set hb2 hg2 (Nat.le_refl _) hb2.size⟩
  · have HOK := Lib.hid hok
    clear hok
    go_enter Tryd.func67, Tryd.ntmps67
    go_wp2_with fail
    refine (vm_May l cA n cc true _ B hTA hcA (by simp; omega) hn (by simp; exact HOK.out)).mono ?_
    rintro e w1 ⟨rfl, hb1⟩
    have HB1 := Lib.hid (bx0.below hb1 (by simp))
    go_wp2_with (refine store_box rfl rfl 84 (.tmp 4) (.tmp 14) rfl w.heap.size C0 rfl (congrArg Value.agg HZ.out.symm) 84 C0 (by have := HB1.out; exact this) (by rw [HL0.out]; exact HIN.out) rfl HO0.out ?_; intro w2 HG2 hg2)
    refine bodyPost_ret (results_row_tmp rfl _ _ w.heap.size 84 C0.toArray (0, 0) _ rfl HG2.out Tryd.underlying84 rfl (by rw [List.size_toArray, HL0.out]; exact HIN.out)) rfl ?_
    have hb2 := hA.trans (hb1.mono (by simp))
    exact ⟨rfl, below_set hb2 hg2 (Nat.le_refl _) hb2.size⟩

/-- What the beginning of a call leaves: its code lies in a row of its own. -/
def BgPost (l : List Ins) (ar : List Int) (n : Nat) (w : World) (e : Ending) (w' : World) : Prop :=
  ∃ cA cc, e = .returned (.tuple #[.agg (thC (.slice cA n cc) 0 (st0 ar []).r (.slice none 0 0)).toArray, .int .i64 0]) ∧ RO w' w'.heap.size cA n l ∧ (0 < n → ∀ g q, cA = some ⟨g, q, none⟩ → w.heap.size ≤ g) ∧ Below w.heap.size w w'

set_option maxRecDepth 100000 in
set_option maxHeartbeats 4000000 in
theorem vm_Begin (w : World) (hT : Tab w) (l : List Ins) (ar : List Int) (cA A : Option Addr) (n cc m c B : Nat) (hc : RO w B cA n l) (hr : RI w B .i64 A m ar) (hB : B ≤ w.heap.size) (hok : okC l) (hm : m ≤ 8) :
    Calls Tryd.prog 67 #[.slice cA n cc, .slice A m c] w (BgPost l ar n w) := by
  have HL := Lib.hid hr.len
  have hn : n ≤ 200 := by have := hok.1; have := hc.len; omega
  have h0 : Below w.heap.size w w := Below.refl _ _
  have bx0 : Box (w.alloc (.cells thZ.toArray 84)) w.heap.size 84 thZ := Box.new w _ _
  have l0 : thZ.length = 27 := thC_len
  have o0 : ∀ v ∈ thZ, v.oneCell' = true := thC_one rfl rfl
  have hin : (Tryd.prog.info? 84).map (·.size) = some 27 := by kernel_rfl
  have hA := h0.alloc (Nat.le_refl _) (Obj.cells thZ.toArray 84)
  have hTA := hT.below hA hT.lt
  have hcA := hc.below (hA.mono hB)
  obtain ⟨C0, hC0⟩ : ∃ C0, C0 = thZ := ⟨_, rfl⟩
  have hZ := thZ_arr
  rw [← hC0] at bx0 l0 o0 hA hTA hcA hZ
  rw [hZ] at hA hTA hcA bx0
  have HL0 := Lib.hid l0
  have HO0 := Lib.hid o0
  have HIN := Lib.hid hin
  have HZ := Lib.hid hZ
  have HOK := Lib.hid hok
  clear l0 o0 hin hC0 hZ hok
  go_enter Tryd.func67, Tryd.ntmps67
  go_wp2_with fail
  refine (vm_May l cA n cc true _ B hTA hcA (by simp; omega) (by omega) (by simp; exact HOK.out)).mono ?_
  rintro e w1 ⟨rfl, hb1⟩
  have HB1 := Lib.hid (bx0.below hb1 (by simp))
  have hb01 := hA.trans (hb1.mono (by simp))
  have hs1 : w.heap.size + 1 ≤ w1.heap.size := by have := hb1.size; simp at this; omega
  go_wp2_with fail
  refine (slices_CloneO l cA n cc B w1 (hc.below (hb01.mono hB)) (by omega) hn).mono ?_
  rintro e w2 ⟨v, rfl, hown, hb2⟩
  obtain ⟨cA1, cc1, rfl, hlc⟩ := own_form hown
  have HROW := Lib.hid hown
  have hb02 : Below w.heap.size w w2 := hb01.trans (hb2.mono (by omega))
  have HBX := Lib.hid (HB1.out.below hb2 (by omega))
  have hs2 := hb2.size
  obtain ⟨C1, hC1⟩ : ∃ C1, C1 = thC (.slice cA1 n cc1) 0 (fun _ => 0) (.slice none 0 0) := ⟨_, rfl⟩
  obtain ⟨C2, hC2⟩ : ∃ C2, C2 = thC (.slice cA1 n cc1) 0 (st0 ar []).r (.slice none 0 0) := ⟨_, rfl⟩
  have HS := Lib.hid (show splice C1 2 (ar.map (Value.int .i64)) = C2 by rw [hC1, hC2]; exact thC_splice _ _ _ _ (by rw [HL.out]; omega))
  have HL1 := Lib.hid (show C1.length = 27 by rw [hC1]; exact thC_len)
  have HL2 := Lib.hid (show C2.length = 27 by rw [hC2]; exact thC_len)
  have HO1 := Lib.hid (show ∀ v ∈ C1, v.oneCell' = true by rw [hC1]; exact thC_one rfl rfl)
  have HO2 := Lib.hid (show ∀ v ∈ C2, v.oneCell' = true by rw [hC2]; exact thC_one rfl rfl)
  have HE1 := Lib.hid (show C1.toArray = #[Value.slice cA1 n cc1, .int .i64 0, .int .i64 0, .int .i64 0, .int .i64 0, .int .i64 0, .int .i64 0, .int .i64 0, .int .i64 0, .int .i64 0, .int .i64 0, .int .i64 0, .int .i64 0, .int .i64 0, .int .i64 0, .int .i64 0, .int .i64 0, .int .i64 0, .int .i64 0, .int .i64 0, .int .i64 0, .int .i64 0, .int .i64 0, .int .i64 0, .int .i64 0, .int .i64 0, .slice none 0 0] by rw [hC1]; exact thA_zero _ _)
  have HC2 := Lib.hid hC2
  have HB2 := Lib.hid (show Box (w2.alloc (.cells C0.toArray 84)) w2.heap.size 84 C0 from Box.new _ _ _)
  have HPOS := Lib.hid (show ∀ w3, Below w2.heap.size w2 w3 → 0 < (ar.map (Value.int .i64)).length → ∃ ad, A = some ad ∧ ∀ j v, (ar.map (Value.int .i64))[j]? = some v → w3.cell? (ad.add j) = some v from by
    intro w3 hw3 hl
    have hm0 : 0 < m := by rw [List.length_map, HL.out] at hl; exact hl
    obtain ⟨bb, oo, rfl, hlt, hcl⟩ := ((hr.below (hb02.mono hB)).below (hw3.mono (by omega))).at_ hm0
    refine ⟨_, rfl, fun j v hj => ?_⟩
    have hjl : j < m := by have := (List.getElem?_eq_some_iff.1 hj).1; rw [List.length_map, HL.out] at this; exact this
    rw [Addr.add_lit, hcl j (by omega)]
    exact hj)
  clear hC1 hC2 hown
  go_wp2_with (first
    | (refine store_box rfl rfl 84 (.tmp 6) (.tmp 17) rfl w2.heap.size C1 rfl (congrArg Value.agg HE1.out.symm) 84 C0 (by have := HB2.out; rw [HZ.out] at this; exact this) (by rw [HL1.out]; exact HIN.out) (by rw [HL0.out, HL1.out]) HO1.out ?_; intro w3 HG3 hg3; have hB3 : Below w2.heap.size w2 w3 := below_set ((Below.refl _ _).alloc (Nat.le_refl _) _) hg3 (Nat.le_refl _) (by simp))
    | (refine wpList_copy_splice rfl _ _ 22 22 rfl 3 Tryd.underlying22 (by kernel_rfl) _ _ _ _ _ _ rfl rfl w2.heap.size 2 C1 84 HG3.out (ar.map (Value.int .i64)) (by rw [List.length_map, HL.out]; exact (Nat.min_eq_left (by omega)).symm) (fun hl => ⟨rfl, HPOS.out w3 hB3 hl⟩) (by rw [List.length_map, HL.out, HL1.out]; omega) (one_ints _ _) w2.heap.size w2 hB3 (Nat.le_refl _) ?_; intro w4 HG4 hB4)
    | (refine wpList_load_row rfl 84 _ rfl w2.heap.size rfl 84 C2.toArray (0, 0) _ (by rw [← HS.out]; exact HG4.out) Tryd.underlying84 rfl (by rw [List.size_toArray, HL2.out]; exact HIN.out) ?_)
    | (refine store_box rfl rfl 84 (.tmp 4) (.tmp 22) rfl w.heap.size C2 rfl rfl 84 C0 (HBX.out.below hB4 (by omega)) (by rw [HL2.out]; exact HIN.out) (by rw [HL0.out, HL2.out]) HO2.out ?_; intro w5 HG5 hg5))
  refine bodyPost_ret (results_row_tmp rfl _ _ w.heap.size 84 C2.toArray (0, 0) _ rfl HG5.out Tryd.underlying84 rfl (by rw [List.size_toArray, HL2.out]; exact HIN.out)) rfl ?_
  have hb4 : Below w.heap.size w w4 := hb02.trans (hB4.mono (by omega))
  have hb5 : Below w.heap.size w w5 := below_set hb4 hg5 (Nat.le_refl _) hb4.size
  refine ⟨cA1, cc1, by rw [HC2.out]; rfl, ?_, ?_, hb5⟩
  · have h1 : w4.ownsRow w1.heap.size 73 5 (.slice cA1 n cc1) n (cellsO l) := own_below HROW.out hB4
    have h2 : w5.ownsRow w1.heap.size 73 5 (.slice cA1 n cc1) n (cellsO l) := by
      refine h1.kept hg5 ?_
      cases hv : (Value.slice cA1 n cc1).ownBlock with
      | none => exact .inl rfl
      | some k =>
        refine .inr fun he => ?_
        have := (h1.lt _ hv).1
        injection he with he
        omega
    exact Rd.of_own h2
  · intro _ g q hA
    have := (HROW.out.lt g (by rw [hA]; rfl)).1
    omega
end Go.Proofs.YtnchgdjdfhfedaaDoor
