/- Of this claim's own texts these, one behind the other: Lin1, LinPure5, LinMem, LinSt1, RefLin1, RefLin2. No statement of the seat is proved here; no condition but those that stand at the theorems. -/
import Derived.Test.YtnchgdjdfhfedaaGreatDoorPartAN
import Derived.Test.YtnchgdjdfhfedaaGreatDoorPartAJ
import Derived.Test.YtnchgdjdfhfedaaGreatDoorPartAD
import Derived.Test.YtnchgdjdfhfedaaGreatDoorPartAP
import Derived.Maps.OwnOps
import Derived.Laws.StructEq
import Derived.Test.YtnchgdjdfhfedaaGreatDoorPartAF
set_option linter.unusedSimpArgs false
set_option linter.unusedVariables false
namespace Go.Proofs.YtnchgdjdfhfedaaGreatDoor
open Go.RowKit Go.Ord Go.Baro

theorem bool_of (p : Prop) : ∃ r : Bool, r = true ↔ p := ⟨@decide p (Classical.propDecidable p), by simp⟩
def acA (a : Ac) : Value := .agg #[.int .i64 a.b, .int .i64 a.e, .bool a.put, .int .i64 a.v, .int .i64 a.add]

set_option maxHeartbeats 1000000 in
theorem lin_ended (w : World) (a : Ac) (r : Bool) (hr : r = true ↔ a.e ≠ -1) : Calls Tryz.prog 69 #[acA a] w fun e w' => e = .returned (.bool r) ∧ Below w.heap.size w w' := by
  obtain ⟨xb, xe, xp, xv, xa⟩ := a
  unfold acA
  have h0 := (Below.refl w.heap.size w).alloc (Nat.le_refl _) (Obj.cells #[.int .i64 xb, .int .i64 xe, .bool xp, .int .i64 xv, .int .i64 xa] 80)
  have HR := Lib.hid hr
  clear hr
  go_enter Tryz.func69, Tryz.ntmps69
  go_wp2
  go_ret
  refine ⟨ret_bool ?_, h0⟩
  have := HR.out
  cases r <;> simp at this ⊢ <;> omega

set_option maxHeartbeats 1000000 in
theorem lin_validTimes (w : World) (a : Ac) (r : Bool) (hr : r = true ↔ ((0 ≤ a.b ∧ a.b ≤ 1048576) ∧ a.e ≤ 1048576 ∧ (a.b ≤ a.e ∨ a.e = -1))) : Calls Tryz.prog 63 #[acA a] w fun e w' => e = .returned (.bool r) ∧ Below w.heap.size w w' := by
  have HE := Lib.hid (fun w r hr => lin_ended w a r hr)
  have HR := Lib.hid hr
  clear hr
  obtain ⟨xb, xe, xp, xv, xa⟩ := a
  unfold acA at HE ⊢
  dsimp only at HE ⊢
  have h0 := (Below.refl w.heap.size w).alloc (Nat.le_refl _) (Obj.cells #[.int .i64 xb, .int .i64 xe, .bool xp, .int .i64 xv, .int .i64 xa] 80)
  by_cases c1 : xb < 0
  · go_enter Tryz.func63, Tryz.ntmps63
    go_wp2
    go_ret
    refine ⟨ret_bool ?_, h0⟩
    have := HR.out
    cases r <;> simp at this ⊢ <;> omega
  by_cases c2 : 1048576 < xb
  · go_enter Tryz.func63, Tryz.ntmps63
    go_wp2
    go_ret
    refine ⟨ret_bool ?_, h0⟩
    have := HR.out
    cases r <;> simp at this ⊢ <;> omega
  have bX := Box.newAt w 80 [.int .i64 xb, .int .i64 xe, .bool xp, .int .i64 xv, .int .i64 xa] w.heap.size rfl
  have lX := bX.lt
  obtain ⟨r', hr'⟩ : ∃ r' : Bool, r' = true ↔ xe ≠ -1 := ⟨decide (xe ≠ -1), by simp⟩
  have HR' := Lib.hid hr'
  clear hr'
  go_enter Tryz.func63, Tryz.ntmps63
  go_wp2_with fail
  refine (HE.out _ r' HR'.out).mono ?_
  rintro e w1 ⟨rfl, hb1⟩
  have hb2 := h0.trans (hb1.mono (Nat.le_of_lt lX))
  have bX1 := bX.below hb1 lX
  have lX1 := bX1.lt
  have x0 : w1.cell? ⟨w.heap.size, 0, none⟩ = _ := bX1.cell 0
  have x1 : w1.cell? ⟨w.heap.size, 1, none⟩ = _ := bX1.cell 1
  simp only [List.getElem?_cons_zero, List.getElem?_cons_succ] at x0 x1
  clear bX bX1 lX hb1
  cases r' with
  | false =>
    have he : xe = -1 := by
      by_cases h : xe = -1
      · exact h
      · exact absurd (HR'.out.2 h) (by simp)
    subst he
    go_wp2
    go_ret
    refine ⟨?_, hb2⟩
    have := HR.out
    cases r <;> simp at this ⊢ <;> omega
  | true =>
    by_cases c3 : xb ≤ xe
    · go_wp2
      go_ret
      refine ⟨ret_bool ?_, hb2⟩
      have := HR.out
      cases r <;> simp at this ⊢ <;> omega
    · have HXE := Lib.hid (HR'.out.1 rfl)
      go_wp2
      go_ret
      refine ⟨ret_bool ?_, hb2⟩
      have := HR.out
      have := HXE.out
      cases r <;> simp at * <;> omega

set_option maxHeartbeats 2000000 in
theorem lin_validNumbers (w : World) (k : Int) (a : Ac) (r : Bool) (hk : 1 ≤ k ∧ k ≤ 4) (hr : r = true ↔ (a.add = 0 ∨ (k = 2 ∧ a.put = true)) ∧ (k = 1 ∨ k = 2 ∨ (-1 ≤ a.v ∧ (a.v = -1 → a.put = false)))) : Calls Tryz.prog 64 #[.int .i64 k, acA a] w fun e w' => e = .returned (.bool r) ∧ Below w.heap.size w w' := by
  have HR := Lib.hid hr
  clear hr
  obtain ⟨xb, xe, xp, xv, xa⟩ := a
  unfold acA
  have h0 := (Below.refl w.heap.size w).alloc (Nat.le_refl _) (Obj.cells #[.int .i64 xb, .int .i64 xe, .bool xp, .int .i64 xv, .int .i64 xa] 80)
  dsimp only
  by_cases k1 : k = 1
  · subst k1
    by_cases ha : xa = 0
    · subst ha
      go_enter Tryz.func64, Tryz.ntmps64
      go_wp2
      go_ret
      refine ⟨?_, h0⟩
      have := HR.out
      cases r <;> simp at this ⊢
    · go_enter Tryz.func64, Tryz.ntmps64
      go_wp2
      go_ret
      refine ⟨?_, h0⟩
      have := HR.out
      cases r <;> simp at this ⊢ <;> omega
  by_cases k2 : k = 2
  · subst k2
    cases xp with
    | true =>
      by_cases ha : xa = 0
      · subst ha
        go_enter Tryz.func64, Tryz.ntmps64
        go_wp2
        go_ret
        refine ⟨?_, h0⟩
        have := HR.out
        cases r <;> simp at this ⊢
      · go_enter Tryz.func64, Tryz.ntmps64
        go_wp2
        go_ret
        refine ⟨?_, h0⟩
        have := HR.out
        cases r <;> simp at this ⊢
    | false =>
      by_cases ha : xa = 0
      · subst ha
        go_enter Tryz.func64, Tryz.ntmps64
        go_wp2
        go_ret
        refine ⟨?_, h0⟩
        have := HR.out
        cases r <;> simp at this ⊢
      · go_enter Tryz.func64, Tryz.ntmps64
        go_wp2
        go_ret
        refine ⟨?_, h0⟩
        have := HR.out
        cases r <;> simp at this ⊢ <;> omega
  have HK1 := Lib.hid k1
  have HK2 := Lib.hid k2
  have kb1 : (k == 1) = false := by simp; omega
  have kb2 : (k == 2) = false := by simp; omega
  clear k1 k2 hk
  by_cases ha : xa = 0
  · subst ha
    by_cases hv : 0 ≤ xv
    · go_enter Tryz.func64, Tryz.ntmps64
      go_wp2
      go_ret
      refine ⟨?_, h0⟩
      have := HR.out
      have hk1 := HK1.out
      have hk2 := HK2.out
      cases r <;> simp [hk1, hk2] at this ⊢ <;> omega
    · by_cases hv1 : xv = -1
      · subst hv1
        cases xp with
        | true =>
          go_enter Tryz.func64, Tryz.ntmps64
          go_wp2
          go_ret
          refine ⟨?_, h0⟩
          have := HR.out
          have hk1 := HK1.out
          have hk2 := HK2.out
          cases r <;> simp [hk1, hk2] at this ⊢ <;> omega
        | false =>
          go_enter Tryz.func64, Tryz.ntmps64
          go_wp2
          go_ret
          refine ⟨?_, h0⟩
          have := HR.out
          have hk1 := HK1.out
          have hk2 := HK2.out
          cases r <;> simp [hk1, hk2] at this ⊢ <;> omega
      · go_enter Tryz.func64, Tryz.ntmps64
        go_wp2
        go_ret
        refine ⟨?_, h0⟩
        have := HR.out
        have hk1 := HK1.out
        have hk2 := HK2.out
        cases r <;> simp [hk1, hk2] at this ⊢ <;> omega
  · go_enter Tryz.func64, Tryz.ntmps64
    go_wp2
    go_ret
    refine ⟨?_, h0⟩
    have := HR.out
    have hk1 := HK1.out
    have hk2 := HK2.out
    cases r <;> simp [hk1, hk2] at this ⊢ <;> omega

theorem okA_iff (k : Int) (a : Ac) (hk : 1 ≤ k ∧ k ≤ 4) : okA k a ↔ ((0 ≤ a.b ∧ a.b ≤ 1048576) ∧ a.e ≤ 1048576 ∧ (a.b ≤ a.e ∨ a.e = -1)) ∧ ((a.add = 0 ∨ (k = 2 ∧ a.put = true)) ∧ (k = 1 ∨ k = 2 ∨ (-1 ≤ a.v ∧ (a.v = -1 → a.put = false)))) := by
  unfold okA
  have : k < 3 ↔ k = 1 ∨ k = 2 := by omega
  rw [this]
  constructor
  · rintro ⟨h1, h2, h3, h4, h5⟩; exact ⟨⟨h1, h2, h3⟩, h4, by rcases h5 with (h | h) | h; exact .inl h; exact .inr (.inl h); exact .inr (.inr h)⟩
  · rintro ⟨⟨h1, h2, h3⟩, h4, h5⟩; exact ⟨h1, h2, h3, h4, by rcases h5 with h | h | h; exact .inl (.inl h); exact .inl (.inr h); exact .inr h⟩

set_option maxHeartbeats 2000000 in
theorem lin_wrong (w : World) (g : Nat) (k : Int) (a : Ac) (r : Bool) (hk : 1 ≤ k ∧ k ≤ 4) (hbx : Box w g 3 [.int .i64 k]) (hr : r = true ↔ ¬ okA k a) :
    Calls Tryz.prog 62 #[acA a, .pointer (some ⟨g, 0, none⟩)] w fun e w' => e = .returned (.bool r) ∧ Below w.heap.size w w' := by
  obtain ⟨r1, hr1⟩ : ∃ r' : Bool, r' = true ↔ ((0 ≤ a.b ∧ a.b ≤ 1048576) ∧ a.e ≤ 1048576 ∧ (a.b ≤ a.e ∨ a.e = -1)) := bool_of _
  obtain ⟨r2, hr2⟩ : ∃ r' : Bool, r' = true ↔ ((a.add = 0 ∨ (k = 2 ∧ a.put = true)) ∧ (k = 1 ∨ k = 2 ∨ (-1 ≤ a.v ∧ (a.v = -1 → a.put = false)))) := bool_of _
  rw [okA_iff k a hk, ← hr1, ← hr2] at hr
  have H1 := Lib.hid (fun w => lin_validTimes w a r1 hr1)
  have H2 := Lib.hid (fun w => lin_validNumbers w k a r2 hk hr2)
  have HR := Lib.hid hr
  clear hr hr1 hr2
  obtain ⟨xb, xe, xp, xv, xa⟩ := a
  unfold acA at H1 H2 ⊢
  dsimp only at H1 H2 ⊢
  have h0 := (Below.refl w.heap.size w).alloc (Nat.le_refl _) (Obj.cells #[.int .i64 xb, .int .i64 xe, .bool xp, .int .i64 xv, .int .i64 xa] 80)
  have bX := Box.newAt w 80 [.int .i64 xb, .int .i64 xe, .bool xp, .int .i64 xv, .int .i64 xa] w.heap.size rfl
  have lX := bX.lt
  have bK := (hbx.alloc (Obj.cells #[.int .i64 xb, .int .i64 xe, .bool xp, .int .i64 xv, .int .i64 xa] 80))
  have lg := hbx.lt
  clear hbx
  go_enter Tryz.func62, Tryz.ntmps62
  go_wp2_with fail
  refine (H1.out _).mono ?_
  rintro e w1 ⟨rfl, hb1⟩
  have hb2 := h0.trans (hb1.mono (Nat.le_of_lt lX))
  have bX1 := bX.below hb1 lX
  have bK1 := bK.below hb1 bK.lt
  have lX1 := bX1.lt
  have x0 : w1.cell? ⟨w.heap.size, 0, none⟩ = _ := bX1.cell 0
  have x1 : w1.cell? ⟨w.heap.size, 1, none⟩ = _ := bX1.cell 1
  have x2 : w1.cell? ⟨w.heap.size, 2, none⟩ = _ := bX1.cell 2
  have x3 : w1.cell? ⟨w.heap.size, 3, none⟩ = _ := bX1.cell 3
  have x4 : w1.cell? ⟨w.heap.size, 4, none⟩ = _ := bX1.cell 4
  have y0 : w1.cell? ⟨g, 0, none⟩ = _ := bK1.cell 0
  simp only [List.getElem?_cons_zero, List.getElem?_cons_succ] at x0 x1 x2 x3 x4 y0
  clear bX bX1 bK bK1 hb1
  cases r1 with
  | false =>
    go_wp2
    go_ret
    refine ⟨?_, hb2⟩
    have := HR.out
    cases r <;> simp at this ⊢
  | true =>
    go_wp2_with fail
    refine (H2.out _).mono ?_
    rintro e w2 ⟨rfl, hb3⟩
    have hb4 := hb2.trans (hb3.mono (by omega))
    go_wp2
    go_ret
    refine ⟨ret_bool ?_, hb4⟩
    have := HR.out
    cases r <;> cases r2 <;> simp at this ⊢

set_option maxHeartbeats 2000000 in
theorem lin_IndexFunc (w : World) (g : Nat) (k : Int) (A : Option Addr) (n c B : Nat) (t : List Ac) (r : Bool) (hk : 1 ≤ k ∧ k ≤ 4) (hbx : Box w g 3 [.int .i64 k]) (hl : RA w B A n t) (hB : B ≤ w.heap.size) (hn : n ≤ 9) (hr : r = true ↔ ¬ ∀ a ∈ t, okA k a) :
    Calls Tryz.prog 77 #[.slice A n c, .func (.func 62) #[] #[.pointer (some ⟨g, 0, none⟩)]] w fun e w' => (∃ i : Int, e = .returned (.int .i64 i) ∧ -1 ≤ i ∧ i ≤ 20 ∧ (r = true ↔ 0 ≤ i)) ∧ Below w.heap.size w w' := by
  have h0 := Below.refl w.heap.size w
  have LT := Lib.hid hl.len
  have HR := Lib.hid hr
  clear hr
  go_enter Tryz.func77, Tryz.ntmps77
  go_wp2
  go_loopw [8] (fun i wr => ∃ j : Nat, j ≤ n ∧ i = .int .i64 j ∧ Hid (∀ a ∈ t.take j, okA k a) ∧ Below w.heap.size w wr) (fun i _ => n - (intOf i).toNat)
  case atStart => exact ⟨0, Nat.zero_le _, rfl, by intro c h; simp at h, h0⟩
  case round =>
    obtain ⟨j, hj, rfl, HC, hbel⟩ := hrel
    have hsz := hbel.size
    have hbw := hbx.below hbel hbx.lt
    by_cases hjm : j < n
    · obtain ⟨b, o, x, rfl, hbB, d0, d1, d2, d3, d4, HX, hmem⟩ := hl.val hjm
      have e0 := (hbel.cell (p := ⟨b, o + j * 5, none⟩) (by show b < _; omega)).trans d0
      have e1 := (hbel.cell (p := ⟨b, o + j * 5 + 1, none⟩) (by show b < _; omega)).trans d1
      have e2 := (hbel.cell (p := ⟨b, o + j * 5 + 2, none⟩) (by show b < _; omega)).trans d2
      have e3 := (hbel.cell (p := ⟨b, o + j * 5 + 3, none⟩) (by show b < _; omega)).trans d3
      have e4 := (hbel.cell (p := ⟨b, o + j * 5 + 4, none⟩) (by show b < _; omega)).trans d4
      obtain ⟨r', hr'⟩ : ∃ r' : Bool, r' = true ↔ ¬ okA k x := bool_of _
      have HR' := Lib.hid hr'
      have HMem := Lib.hid hmem
      clear hr' hmem d0 d1 d2 d3 d4
      go_wp2_with fail
      refine (lin_wrong _ g k x r' hk hbw HR'.out).mono ?_
      rintro e w1 ⟨rfl, hb1⟩
      have hb2 := hbel.trans (hb1.mono hsz)
      cases r' with
      | true =>
        go_wp2
        go_ret
        refine ⟨⟨j, rfl, by omega, by omega, ?_⟩, hb2⟩
        refine ⟨fun _ => by omega, fun _ => HR.out.2 fun hall => ?_⟩
        exact HR'.out.1 (by first | rfl | trivial) (hall _ HMem.out)
      | false =>
        have HOK : Hid (okA k x) := by
          show okA k x
          by_cases h : okA k x
          · exact h
          · exact absurd (HR'.out.2 h) (by simp)
        go_wp2
        go_roundw
        case rel =>
          refine ⟨j + 1, by omega, by go_num, ?_, hb2⟩
          intro d hd
          rw [at_take HX.out] at hd
          rcases List.mem_append.1 hd with hd | hd
          · exact HC.out d hd
          · rw [List.mem_singleton.1 hd]; exact HOK.out
        case measure => simp [intOf]; omega
    · obtain rfl : n = j := by omega
      have HC2 := HC.out
      rw [List.take_of_length_le (by rw [LT.out]; omega)] at HC2
      have HC := Lib.hid HC2
      clear HC2
      go_wp2
      go_ret
      refine ⟨⟨-1, rfl, by omega, by omega, ?_⟩, hbel⟩
      refine ⟨fun hrt => absurd HC.out (HR.out.1 hrt), fun h => by omega⟩

set_option maxHeartbeats 1000000 in
theorem lin_ContainsFunc (w : World) (g : Nat) (k : Int) (A : Option Addr) (n c B : Nat) (t : List Ac) (r : Bool) (hk : 1 ≤ k ∧ k ≤ 4) (hbx : Box w g 3 [.int .i64 k]) (hl : RA w B A n t) (hB : B ≤ w.heap.size) (hn : n ≤ 9) (hr : r = true ↔ ¬ ∀ a ∈ t, okA k a) :
    Calls Tryz.prog 65 #[.slice A n c, .func (.func 62) #[] #[.pointer (some ⟨g, 0, none⟩)]] w fun e w' => e = .returned (.bool r) ∧ Below w.heap.size w w' := by
  have HC := Lib.hid (lin_IndexFunc w g k A n c B t r hk hbx hl hB hn hr)
  clear hbx hl hr
  go_enter Tryz.func65, Tryz.ntmps65
  go_wp2_with fail
  refine HC.out.mono ?_
  rintro e w1 ⟨⟨i, rfl, h1, h2, h3⟩, hb1⟩
  have H3 := Lib.hid h3
  clear h3
  go_wp2
  go_ret
  refine ⟨ret_bool ?_, hb1⟩
  have := H3.out
  cases r <;> simp at this ⊢ <;> omega

set_option maxRecDepth 100000 in
set_option maxHeartbeats 2000000 in
theorem lin_May : LinMaySpec := by
  intro w A n c l k r h hn hlc hi hr
  have HR := Lib.hid hr
  have HL := Lib.hid h.len
  clear hr
  have h0 : Below w.heap.size w w := Below.refl _ _
  have hA := h0.alloc (Nat.le_refl _) (Obj.cells #[.int .i64 k] 3)
  have bX := Box.newAt w 3 [.int .i64 k] w.heap.size rfl
  have fin : ¬ okL k l → r = false := fun h => by
    cases r with
    | false => rfl
    | true => exact absurd (HR.out.1 rfl) h
  by_cases c1 : k < 1
  · have hv := fin fun h => by have := h.1; omega
    go_enter Tryz.func52, Tryz.ntmps52
    go_wp2
    go_ret
    exact ⟨by first | rfl | exact ret_bool hv.symm, hA⟩
  by_cases c2 : 4 < k
  · have hv := fin fun h => by have := h.1; omega
    go_enter Tryz.func52, Tryz.ntmps52
    go_wp2
    go_ret
    exact ⟨by first | rfl | exact ret_bool hv.symm, hA⟩
  by_cases c3 : 9 < n
  · have hv := fin fun h => by have := h.2.1; rw [HL.out] at this; omega
    go_enter Tryz.func52, Tryz.ntmps52
    go_wp2
    go_ret
    exact ⟨by first | rfl | exact ret_bool hv.symm, hA⟩
  clear fin
  obtain ⟨r', hr'⟩ : ∃ r' : Bool, r' = true ↔ ¬ ∀ a ∈ l, okA k a := bool_of _
  have HR' := Lib.hid hr'
  clear hr'
  have lX := bX.lt
  go_enter Tryz.func52, Tryz.ntmps52
  go_wp2_with fail
  refine (lin_ContainsFunc _ w.heap.size k A n c w.heap.size l r' (by omega) bX (h.below hA) (by omega) (by omega) HR'.out).mono ?_
  rintro e w1 ⟨rfl, hb1⟩
  have hb2 := hA.trans (hb1.mono (Nat.le_of_lt lX))
  have HRR : Hid (r = !r') := by
    show r = !r'
    have h1 := HR.out
    have h2 := HR'.out
    have h3 : okL k l ↔ ∀ a ∈ l, okA k a := ⟨fun h => h.2.2, fun h => ⟨by omega, by rw [HL.out]; omega, h⟩⟩
    rw [h3] at h1
    cases r <;> cases r' <;> simp at h1 h2 ⊢
    · obtain ⟨x, hx, hx2⟩ := h1; exact absurd (h2 x hx) hx2
    · obtain ⟨x, hx, hx2⟩ := h2; exact absurd (h1 x hx) hx2
  go_wp2
  go_ret
  exact ⟨ret_bool HRR.out.symm, hb2⟩
end Go.Proofs.YtnchgdjdfhfedaaGreatDoor

set_option linter.unusedSimpArgs false
set_option linter.unusedVariables false
namespace Go.Baro
/-- Those from the i-th on whose bit is not set in d. -/
def lft (d : Nat) : Nat → List Ac → List Ac
  | _, [] => []
  | i, a :: l => if d.testBit i = true then lft d (i + 1) l else a :: lft d (i + 1) l
theorem lft_cons (d j : Nat) (b : Ac) (l : List Ac) : lft d j (b :: l) = if d.testBit j = true then lft d (j + 1) l else b :: lft d (j + 1) l := rfl
theorem lft_congr {d d' : Nat} : ∀ (l : List Ac) (j : Nat), (∀ i, j ≤ i → d.testBit i = d'.testBit i) → lft d j l = lft d' j l
  | [], _, _ => rfl
  | a :: l, j, h => by
    unfold lft
    rw [h j (Nat.le_refl _), lft_congr l (j + 1) (fun i hi => h i (by omega))]
theorem bit_or (d i j : Nat) : (d ||| 2 ^ i).testBit j = (d.testBit j || decide (i = j)) := by
  rw [Nat.testBit_or, Nat.testBit_two_pow]
theorem lft_perm {d : Nat} {a : Ac} : ∀ (l : List Ac) (j i : Nat), l[i]? = some a → d.testBit (j + i) = false → (lft d j l).Perm (a :: lft (d ||| 2 ^ (j + i)) j l)
  | [], _, _, h, _ => by simp at h
  | b :: l, j, 0, h, hb => by
    simp only [List.getElem?_cons_zero, Option.some.injEq] at h
    subst h
    rw [Nat.add_zero] at hb ⊢
    unfold lft
    rw [hb, if_neg (by simp), if_pos (by rw [bit_or]; simp), lft_congr (d := d) (d' := d ||| 2 ^ j) l (j + 1) fun i hi => ?_]
    rw [bit_or]
    simp; omega
  | b :: l, j, i + 1, h, hb => by
    rw [List.getElem?_cons_succ] at h
    have ih := lft_perm l (j + 1) i h (by rw [← hb]; congr 1; omega)
    rw [show j + 1 + i = j + (i + 1) by omega] at ih
    unfold lft
    have hj : (d ||| 2 ^ (j + (i + 1))).testBit j = d.testBit j := by rw [bit_or]; simp
    rw [hj]
    by_cases hd : d.testBit j = true
    · rw [if_pos hd, if_pos hd]; exact ih
    · rw [if_neg hd, if_neg hd]; exact (List.Perm.cons b ih).trans (List.Perm.swap a b _)
theorem mem_lft {d : Nat} {a : Ac} : ∀ (l : List Ac) (j : Nat), a ∈ lft d j l ↔ ∃ i, l[i]? = some a ∧ d.testBit (j + i) = false
  | [], j => by simp [lft]
  | b :: l, j => by
    have ih := mem_lft (d := d) (a := a) l (j + 1)
    have hr : (∃ i, (b :: l)[i]? = some a ∧ d.testBit (j + i) = false) ↔ (b = a ∧ d.testBit j = false) ∨ ∃ i, l[i]? = some a ∧ d.testBit (j + 1 + i) = false := by
      constructor
      · rintro ⟨i, h1, h2⟩
        cases i with
        | zero => exact .inl ⟨by simpa using h1, h2⟩
        | succ i => exact .inr ⟨i, by simpa using h1, by rw [← h2]; congr 1; omega⟩
      · rintro (⟨h1, h2⟩ | ⟨i, h1, h2⟩)
        · exact ⟨0, by simp [h1], h2⟩
        · exact ⟨i + 1, by simpa using h1, by rw [← h2]; congr 1; omega⟩
    rw [hr, ← ih, lft_cons]
    by_cases hd : d.testBit j = true
    · rw [if_pos hd]
      exact ⟨.inr, fun h => h.elim (fun h => by rw [hd] at h; exact absurd h.2 (by simp)) id⟩
    · rw [if_neg hd, List.mem_cons]
      exact ⟨fun h => h.elim (fun h => .inl ⟨h.symm, by simpa using hd⟩) .inr, fun h => h.elim (fun h => .inl h.1.symm) .inr⟩
theorem lft_all : ∀ (l : List Ac) (j : Nat), lft 0 j l = l
  | [], _ => rfl
  | a :: l, j => by unfold lft; simp [lft_all l]
theorem lft_len (d : Nat) : ∀ (l : List Ac) (j : Nat), (lft d j l).length ≤ l.length
  | [], _ => by simp [lft]
  | a :: l, j => by
    unfold lft
    have := lft_len d l (j + 1)
    split
    · simp; omega
    · simp; omega
/-- The operation at i may come next. -/
def nxt (k : Int) (has : List Int) (l : List Ac) (d i : Nat) : Prop := ∃ a, l[i]? = some a ∧ d.testBit i = false ∧ (∀ j b, l[j]? = some b → d.testBit j = false → b.e ≠ -1 → a.b ≤ b.e) ∧ (a.e ≠ -1 → (tel k has a).1 = a.v) ∧ Lin k (tel k has a).2 (lft (d ||| 2 ^ i) 0 l)
theorem lin_set {k : Int} {has : List Int} {l : List Ac} {d : Nat} : Lin k has (lft d 0 l) ↔ (∀ i a, l[i]? = some a → d.testBit i = false → a.e = -1) ∨ ∃ i, nxt k has l d i := by
  have hm : ∀ a, a ∈ lft d 0 l ↔ ∃ i, l[i]? = some a ∧ d.testBit i = false := fun a => by
    have := mem_lft (d := d) (a := a) l 0
    simpa using this
  constructor
  · intro h
    cases h with
    | done h => exact .inl fun i a h1 h2 => h a ((hm a).2 ⟨i, h1, h2⟩)
    | step a rest hp hf ht h =>
      obtain ⟨i, h1, h2⟩ := (hm a).1 (hp.mem_iff.2 (by simp))
      have hq := lft_perm (d := d) (a := a) l 0 i h1 (by simpa using h2)
      rw [Nat.zero_add] at hq
      exact .inr ⟨i, a, h1, h2, fun j b h3 h4 => hf b ((hm b).2 ⟨j, h3, h4⟩), ht, h.perm (List.Perm.cons_inv (hp.symm.trans hq))⟩
  · rintro (h | ⟨i, a, h1, h2, h3, h4, h5⟩)
    · exact .done fun a ha => by obtain ⟨i, h1, h2⟩ := (hm a).1 ha; exact h i a h1 h2
    · have hq := lft_perm (d := d) (a := a) l 0 i h1 (by simpa using h2)
      rw [Nat.zero_add] at hq
      exact .step a _ hq (fun b hb => by obtain ⟨j, h6, h7⟩ := (hm b).1 hb; exact h3 j b h6 h7) h4 h5
theorem lft_less {l : List Ac} {d i : Nat} {a : Ac} (h1 : l[i]? = some a) (h2 : d.testBit i = false) : (lft d 0 l).length = (lft (d ||| 2 ^ i) 0 l).length + 1 := by
  have hq := lft_perm (d := d) (a := a) l 0 i h1 (by simpa using h2)
  rw [Nat.zero_add] at hq
  rw [hq.length_eq, List.length_cons]
/-- How many states a search visits at most, with m operations left. -/
def cst : Nat → Nat
  | 0 => 1
  | m + 1 => 1 + 9 * cst m
theorem cst_le : ∀ m, cst m ≤ 10 ^ m
  | 0 => by simp [cst]
  | m + 1 => by
    have := cst_le m
    have h1 : 1 ≤ 10 ^ m := Nat.one_le_pow _ _ (by omega)
    rw [cst, Nat.pow_succ]; omega
theorem cst_mono {m m' : Nat} (h : m ≤ m') : cst m ≤ cst m' := by
  induction h with
  | refl => exact Nat.le_refl _
  | step _ ih => rw [cst]; omega
end Go.Baro

set_option linter.unusedSimpArgs false
set_option linter.unusedVariables false
namespace Go.Proofs.YtnchgdjdfhfedaaGreatDoor
open Go.RowKit Go.Ord Go.Baro Go.MapKept

/-- A place. -/
def KV (d g : Int) : Value := .agg #[.int .u64 d, .int .u64 g]
theorem key_check (d g : Int) (em : Bool) (w : World) : (Instr.checkKey em 10000 142 (KV d g)).run Tryz.prog w = .ok () w := by
  cases em <;> kernel_rfl
theorem key_fields : (Tryz.prog.fieldsOf 142).toList.map (fun f => (f.name == "_", f.type, f.offset)) = [(false, 106, 0), (false, 139, 1)] := by kernel_rfl
theorem key_part0 (d g : Int) (w : World) : (part 106 #[.int .u64 d, .int .u64 g] 0).run Tryz.prog w = .ok (.int .u64 d) w := by kernel_rfl
theorem key_part1 (d g : Int) (w : World) : (part 139 #[.int .u64 d, .int .u64 g] 1).run Tryz.prog w = .ok (.int .u64 g) w := by kernel_rfl
theorem key_eq (d g d' g' : Int) (w : World) : (Op.equal 142 (KV d g) (KV d' g')).run Tryz.prog w = .ok (d == d' && g == g') w := by
  unfold Op.equal KV
  rw [show Op.maxDepth = 9998 + 1 + 1 from rfl, run_equalIn_agg w (9998 + 1) _ _ _ (by kernel_rfl) (by kernel_rfl)]
  have hf := key_fields
  match hm : (Tryz.prog.fieldsOf 142).toList with
  | [] => rw [hm] at hf; simp at hf
  | [_] => rw [hm] at hf; simp at hf
  | _ :: _ :: _ :: _ => rw [hm] at hf; simp at hf
  | [f0, f1] =>
    rw [hm] at hf
    simp only [List.map_cons, List.map_nil, List.cons.injEq, Prod.mk.injEq, and_true] at hf
    obtain ⟨⟨n0, t0, o0⟩, n1, t1, o1⟩ := hf
    have h0 : f0.name ≠ "_" := by simpa using n0
    have h1 : f1.name ≠ "_" := by simpa using n1
    have e0 := run_equalIn_int (P := Tryz.prog) w 9998 106 .u64 .u64 d d' (by kernel_rfl)
    have e1 := run_equalIn_int (P := Tryz.prog) w 9998 139 .u64 .u64 g g' (by kernel_rfl)
    simp only [Op.eqFields, if_pos h0, if_pos h1, t0, t1, o0, o1, Sem.run_bind, key_part0, key_part1, Result.andThen_ok, e0, e1]
    cases h2 : (d == d')
    · simp
    · simp only [Bool.not_true, Bool.false_eq_true, if_false, if_pos h1, Sem.run_bind, t1, o1, key_part1, Result.andThen_ok, e1]
      cases h3 : (g == g') <;> simp [Op.eqFields]

/-- Numbers that lie in a block of numbers. -/
def QR (w : World) (A : Option Addr) (n : Nat) (xs : List Int) : Prop := xs.length = n ∧ (0 < n → ∃ b o cs fr, A = some ⟨b, o, none⟩ ∧ w.heap[b]? = some (.cells cs 3 fr) ∧ ∀ j, j < n → w.cell? ⟨b, o + j, none⟩ = (xs.map (Value.int .i64))[j]?)
theorem heap_lt {w : World} {b : Nat} {o : Obj} (h : w.heap[b]? = some o) : b < w.heap.size := (Array.getElem?_eq_some_iff.1 h).1
theorem QR.ri {w : World} {A : Option Addr} {n : Nat} {xs : List Int} (h : QR w A n xs) : RI w w.heap.size .i64 A n xs := by
  refine ⟨by rw [List.length_map, h.1, Nat.mul_one], fun h0 => ?_⟩
  obtain ⟨b, o, cs, fr, hA, hb, hc⟩ := h.2 h0
  exact ⟨b, o, hA, heap_lt hb, fun j hj => hc j (by rw [Nat.mul_one] at hj; exact hj)⟩
/-- What a search keeps: all blocks of cells but those of states. -/
structure Kp (w w' : World) : Prop where
  size : w.heap.size ≤ w'.heap.size
  block : ∀ (b : Nat) (cs : Array Value) (t : TypeId) (fr : Nat × Nat), w.heap[b]? = some (.cells cs t fr) → t ≠ 108 → w'.heap[b]? = some (.cells cs t fr)
theorem Kp.refl (w : World) : Kp w w := ⟨Nat.le_refl _, fun _ _ _ _ h _ => h⟩
theorem Kp.trans {a b c : World} (h : Kp a b) (k : Kp b c) : Kp a c := ⟨Nat.le_trans h.size k.size, fun i cs t fr h1 h2 => k.block i cs t fr (h.block i cs t fr h1 h2) h2⟩
theorem Kp.below {w w' : World} (h : Below w.heap.size w w') : Kp w w' := ⟨h.size, fun b cs t fr h1 _ => (h.block b (heap_lt h1)).trans h1⟩
theorem Kp.heap {a w w' : World} (h : Kp a w) (hh : w'.heap = w.heap) : Kp a w' := ⟨by rw [hh]; exact h.size, fun b cs t fr h1 h2 => by rw [hh]; exact h.block b cs t fr h1 h2⟩
theorem Kp.grown {w w' : World} {row : Option Nat} (hg : w.grownBy w' row) (hr : ∀ (b : Nat) (cs : Array Value) (t : TypeId) (fr : Nat × Nat), row = some b → w.heap[b]? = some (.cells cs t fr) → t = 108) : Kp w w' :=
  ⟨hg.size, fun b cs t fr h1 h2 => (hg.block b (heap_lt h1) (fun e => h2 (hr b cs t fr e.symm h1))).trans h1⟩
theorem QR.kp {w w' : World} {A : Option Addr} {n : Nat} {xs : List Int} (h : QR w A n xs) (hk : Kp w w') : QR w' A n xs := by
  refine ⟨h.1, fun h0 => ?_⟩
  obtain ⟨b, o, cs, fr, hA, hb, hc⟩ := h.2 h0
  have hb' := hk.block b cs _ fr hb (by decide)
  refine ⟨b, o, cs, fr, hA, hb', fun j hj => ?_⟩
  rw [← hc j hj]
  exact World.cell?_of_block (w := w) (a := ⟨b, o + j, none⟩) (hb'.trans hb.symm)
theorem QR.nil (w : World) (A : Option Addr) : QR w A 0 [] := ⟨rfl, fun h => absurd h (by omega)⟩
theorem QR.own {w : World} {B : Nat} {v : Value} {n : Nat} {xs : List Int} (h : w.ownsRow B 3 1 v n (xs.map (Value.int .i64))) : ∃ A c, v = .slice A n c ∧ n ≤ c ∧ (A = none → c = 0) ∧ QR w A n xs := by
  have hl : xs.length = n := by have := h.1; rw [List.length_map, Nat.mul_one] at this; exact this
  rcases h.2 with ⟨rfl, rfl⟩ | ⟨g, cap, cur, rfl, hb, hg, hnc, hcm, hcs, ht⟩
  · exact ⟨none, 0, rfl, Nat.le_refl _, fun _ => rfl, hl, fun h => absurd h (by omega)⟩
  · refine ⟨some ⟨g, 0, none⟩, cap, rfl, hnc, (fun h => by cases h), hl, fun h0 => ⟨g, 0, cur, (0, 0), rfl, hg, fun j hj => ?_⟩⟩
    have hcell := h.cells (g := g) rfl
    have hj2 : j < (xs.map (Value.int .i64)).length := by rw [List.length_map]; omega
    rw [List.getElem?_eq_getElem hj2]
    have := hcell j _ (List.getElem?_eq_getElem hj2)
    rw [Addr.add_lit] at this
    exact this
theorem QR.win {w : World} {b o n i m : Nat} {xs : List Int} (h : QR w (some ⟨b, o, none⟩) n xs) (hm : i + m ≤ n) : QR w (some ⟨b, o + i, none⟩) m ((xs.drop i).take m) := by
  refine ⟨by rw [List.length_take, List.length_drop, h.1]; omega, fun h0 => ?_⟩
  obtain ⟨b', o', cs, fr, hA, hb, hc⟩ := h.2 (by omega)
  injection hA with hA
  injection hA with hA1 hA2
  subst hA1 hA2
  refine ⟨b, o + i, cs, fr, rfl, hb, fun j hj => ?_⟩
  rw [Nat.add_assoc, hc (i + j) (by omega)]
  simp [List.getElem?_take_of_lt hj, List.getElem?_drop]
end Go.Proofs.YtnchgdjdfhfedaaGreatDoor

set_option linter.unusedSimpArgs false
set_option linter.unusedVariables false
namespace Go.Proofs.YtnchgdjdfhfedaaGreatDoor
open Go.RowKit Go.Ord Go.Baro

set_option maxHeartbeats 1000000 in
theorem reg_next (w : World) (x : Int) (a : Ac) : Calls Tryz.prog 109 #[.int .i64 x, acA a] w fun e w' => e = .returned (.tuple #[.iface 125 (.int .i64 (if a.put = true then a.v else x)), .int .i64 (if a.put = true then a.v else x)]) ∧ Below w.heap.size w w' := by
  obtain ⟨xb, xe, xp, xv, xa⟩ := a
  unfold acA
  have h0 := (Below.refl w.heap.size w).alloc (Nat.le_refl _) (Obj.cells #[.int .i64 xb, .int .i64 xe, .bool xp, .int .i64 xv, .int .i64 xa] 80)
  dsimp only
  cases xp with
  | true =>
    go_enter Tryz.func109, Tryz.ntmps109
    go_wp2
    refine region_two [0, 1, 2, 3, 4, 5, 6] [] (by kernel_rfl) (by kernel_rfl) ?_
    simp only [pick, List.map_cons, List.map_nil, List.getD_cons_zero, List.getD_cons_succ]
    go_wp2
    go_ret2
    exact ⟨rfl, h0.drew⟩
  | false =>
    go_enter Tryz.func109, Tryz.ntmps109
    go_wp2
    go_ret2
    exact ⟨rfl, h0⟩
set_option maxHeartbeats 1000000 in
theorem reg_same (w : World) (x y : Int) (r : Bool) (hr : r = true ↔ y = x) : Calls Tryz.prog 110 #[.int .i64 x, .iface 125 (.int .i64 y)] w fun e w' => e = .returned (.bool r) ∧ Below w.heap.size w w' := by
  have HR := Lib.hid hr
  have h0 := Below.refl w.heap.size w
  clear hr
  have ta : (Instr.typeAssert (.iface 125 (.int .i64 y)) 108 125 true).run Tryz.prog w = .ok (.tuple #[.int .i64 y, .bool true]) w := by kernel_rfl
  go_enter Tryz.func110, Tryz.ntmps110
  go_wp2
  go_ret
  refine ⟨ret_bool ?_, h0⟩
  have := HR.out
  cases r <;> simp at this ⊢ <;> exact this
set_option maxHeartbeats 1000000 in
theorem reg_digest (w : World) (x : Int) : Calls Tryz.prog 108 #[.int .i64 x] w fun e w' => (∃ g, e = .returned (.int .u64 g)) ∧ Below w.heap.size w w' := by
  have h0 := Below.refl w.heap.size w
  go_enter Tryz.func108, Tryz.ntmps108
  go_wp2
  go_ret
  exact ⟨⟨_, rfl⟩, h0⟩
set_option maxHeartbeats 1000000 in
theorem cnt_next (w : World) (x : Int) (a : Ac) (hx : inW x) (ha : a.put = false → a.add = 0) : Calls Tryz.prog 112 #[.int .i64 x, acA a] w fun e w' => e = .returned (.tuple #[.iface 126 (.int .i64 (wrap64 (x + a.add))), .int .i64 x]) ∧ Below w.heap.size w w' := by
  obtain ⟨xb, xe, xp, xv, xa⟩ := a
  unfold acA
  have h0 := (Below.refl w.heap.size w).alloc (Nat.le_refl _) (Obj.cells #[.int .i64 xb, .int .i64 xe, .bool xp, .int .i64 xv, .int .i64 xa] 80)
  dsimp only at ha ⊢
  cases xp with
  | true =>
    clear ha
    go_enter Tryz.func112, Tryz.ntmps112
    go_wp2
    go_ret2
    exact ⟨rfl, h0⟩
  | false =>
    have hw : wrap64 (x + xa) = x := by rw [ha rfl, Int.add_zero]; unfold inW at hx; unfold wrap64; omega
    rw [hw]
    clear ha hw
    go_enter Tryz.func112, Tryz.ntmps112
    go_wp2
    go_ret2
    exact ⟨rfl, h0⟩
set_option maxHeartbeats 1000000 in
theorem cnt_same (w : World) (x y : Int) (r : Bool) (hr : r = true ↔ y = x) : Calls Tryz.prog 113 #[.int .i64 x, .iface 126 (.int .i64 y)] w fun e w' => e = .returned (.bool r) ∧ Below w.heap.size w w' := by
  have HR := Lib.hid hr
  have h0 := Below.refl w.heap.size w
  clear hr
  have ta : (Instr.typeAssert (.iface 126 (.int .i64 y)) 108 126 true).run Tryz.prog w = .ok (.tuple #[.int .i64 y, .bool true]) w := by kernel_rfl
  go_enter Tryz.func113, Tryz.ntmps113
  go_wp2
  go_ret
  refine ⟨ret_bool ?_, h0⟩
  have := HR.out
  cases r <;> simp at this ⊢ <;> exact this
set_option maxHeartbeats 1000000 in
theorem cnt_digest (w : World) (x : Int) : Calls Tryz.prog 111 #[.int .i64 x] w fun e w' => (∃ g, e = .returned (.int .u64 g)) ∧ Below w.heap.size w w' := by
  have h0 := Below.refl w.heap.size w
  go_enter Tryz.func111, Tryz.ntmps111
  go_wp2
  go_ret
  exact ⟨⟨_, rfl⟩, h0⟩
end Go.Proofs.YtnchgdjdfhfedaaGreatDoor

set_option linter.unusedSimpArgs false
set_option linter.unusedVariables false
namespace Go.Proofs.YtnchgdjdfhfedaaGreatDoor
open Go.RowKit Go.Ord Go.Baro

end Go.Proofs.YtnchgdjdfhfedaaGreatDoor

set_option linter.unusedSimpArgs false
set_option linter.unusedVariables false
namespace Go.Proofs.YtnchgdjdfhfedaaGreatDoor
open Go.RowKit Go.Ord Go.Baro

theorem eltIntL : Elt Tryz.prog 22 3 (.int .i64 0) 1 8 := Elt.mk' Tryz.underlying22 (by kernel_rfl) rfl (by decide)
theorem RI_litL (w : World) (e : TypeId) (k : IntKind) (xs : List Int) (n g : Nat) (hg : g = w.heap.size) (hn : xs.length = n) :
    RI (w.alloc (.cells (xs.map (Value.int k)).toArray e)) (g + 1) k (some ⟨g, 0, none⟩) n xs := by
  subst hg
  have h := Rd.lit w e (cs := xs.map (Value.int k)) (s := 1) (n := n) (by simp [hn])
  rw [show (w.alloc (.cells (xs.map (Value.int k)).toArray e)).heap.size = w.heap.size + 1 by simp] at h
  exact h
theorem RI.winL {w : World} {B n : Nat} {k : IntKind} {b o : Nat} {xs : List Int} (h : RI w B k (some ⟨b, o, none⟩) n xs) {i m : Nat} (hi : i + m ≤ n) : RI w B k (some ⟨b, o + i, none⟩) m ((xs.drop i).take m) := by
  have h1 : RI w B k (some ⟨b, o + i, none⟩) (n - i) (xs.drop i) := by
    have := Rd.drop h (k := i) (by omega)
    rw [Nat.mul_one, ← List.map_drop] at this
    exact this
  exact h1.take (by omega)
/-- What the operations of the put have left, of a list. -/
structure GtV (L : Nat → Bool) (bx B hn hc : Nat) (hA : Option Addr) (has : List Int) (av : Int) (w0 : World) (u6 u36 u37 u38 u39 u40 u41 u42 u43 : Value) (w : World) : Prop where
  bel : Below B w0 w
  f0 : L 0 = true → u36 = .pointer (some ⟨bx, 3, none⟩)
  f1 : L 1 = true → u37 = .int .i64 av
  f2 : L 2 = true → u38 = .slice hA hn hc
  f3 : L 3 = true → ∃ A c, u39 = .slice A hn c ∧ (L 7 = false → w.ownsRow B 3 1 u39 hn (has.map (Value.int .i64)))
  f4 : L 4 = true → u40 = .pointer (some ⟨bx, 3, none⟩)
  f5 : L 5 = true → u41 = .int .i64 av
  f6 : L 6 = true → ∃ g, u42 = .slice (some ⟨g, 0, none⟩) 1 1 ∧ (L 7 = false → RI w w.heap.size .i64 (some ⟨g, 0, none⟩) 1 [av])
  f7 : L 7 = true → ∃ A c, u43 = .slice A (hn + 1) c ∧ w.ownsRow B 3 1 u43 (hn + 1) ((has ++ [av]).map (Value.int .i64))
  f8 : L 8 = true → u6 = .int .i64 av
/-- The frame of the put. -/
def Gt (k : Int) (hA : Option Addr) (hn hc : Nat) (ab ae av aa : Int) (bx B : Nat) (has : List Int) (w0 : World) (L : Nat → Bool) (a : Act) (w : World) : Prop :=
  ∃ u6 u36 u37 u38 u39 u40 u41 u42 u43, a = ⟨#[.int .i64 k, .slice hA hn hc, .agg #[.int .i64 ab, .int .i64 ae, .bool true, .int .i64 av, .int .i64 aa], undef, undef, .pointer (some ⟨bx, 0, none⟩), u6, .slice none 0 0, .int .i64 k, .bool false, .bool false, undef, undef, undef, undef, undef, undef, undef, undef, undef, undef, undef, .bool false, .bool false, undef, undef, undef, undef, undef, undef, undef, undef, undef, undef, .pointer (some ⟨bx, 2, none⟩), .bool true, u36, u37, u38, u39, u40, u41, u42, u43, undef, undef, undef, undef, undef, undef, undef, undef, undef, undef, undef, undef, undef, undef, undef, undef, undef, undef, undef, undef, undef, undef], []⟩ ∧ GtV L bx B hn hc hA has av w0 u6 u36 u37 u38 u39 u40 u41 u42 u43 w
theorem mem_ofL {l : List Nat} {a : Nat} (h : l.contains a = true) : a ∈ l := by simpa using h
/-- What it leaves: what is told, and a slice of what it has then. -/
def TlPost (v : Int) (nx : List Int) (w : World) (e : Ending) (w' : World) : Prop := ∃ A n c, e = .returned (.tuple #[.int .i64 v, .slice A n c]) ∧ RI w' w'.heap.size .i64 A n nx ∧ n ≤ c ∧ Below w.heap.size w w'

end Go.Proofs.YtnchgdjdfhfedaaGreatDoor
