/- What lin.May does. No statement of the seat is proved here; no condition. -/
import Derived.Test.YtdoniefhmmodbaaLinSpec
set_option linter.unusedSimpArgs false
set_option linter.unusedVariables false
namespace Go.Proofs.Ytdoniefhmmodbaa
open Go.RowKit Go.Ord Go.Baro

theorem bool_of (p : Prop) : ∃ r : Bool, r = true ↔ p := ⟨@decide p (Classical.propDecidable p), by simp⟩
def acA (a : Ac) : Value := .agg #[.int .i64 a.b, .int .i64 a.e, .bool a.put, .int .i64 a.v, .int .i64 a.add]

set_option maxHeartbeats 1000000 in
theorem lin_ended (w : World) (a : Ac) (r : Bool) (hr : r = true ↔ a.e ≠ -1) : Calls Try.prog 25 #[acA a] w fun e w' => e = .returned (.bool r) ∧ Below w.heap.size w w' := by
  obtain ⟨xb, xe, xp, xv, xa⟩ := a
  unfold acA
  have h0 := (Below.refl w.heap.size w).alloc (Nat.le_refl _) (Obj.cells #[.int .i64 xb, .int .i64 xe, .bool xp, .int .i64 xv, .int .i64 xa] 34)
  have HR := Lib.hid hr
  clear hr
  go_enter Try.func25, Try.ntmps25
  go_wp2
  go_ret
  refine ⟨ret_bool ?_, h0⟩
  have := HR.out
  cases r <;> simp at this ⊢ <;> omega

set_option maxHeartbeats 1000000 in
theorem lin_validTimes (w : World) (a : Ac) (r : Bool) (hr : r = true ↔ ((0 ≤ a.b ∧ a.b ≤ 1048576) ∧ a.e ≤ 1048576 ∧ (a.b ≤ a.e ∨ a.e = -1))) : Calls Try.prog 18 #[acA a] w fun e w' => e = .returned (.bool r) ∧ Below w.heap.size w w' := by
  have HE := Lib.hid (fun w r hr => lin_ended w a r hr)
  have HR := Lib.hid hr
  clear hr
  obtain ⟨xb, xe, xp, xv, xa⟩ := a
  unfold acA at HE ⊢
  dsimp only at HE ⊢
  have h0 := (Below.refl w.heap.size w).alloc (Nat.le_refl _) (Obj.cells #[.int .i64 xb, .int .i64 xe, .bool xp, .int .i64 xv, .int .i64 xa] 34)
  by_cases c1 : xb < 0
  · go_enter Try.func18, Try.ntmps18
    go_wp2
    go_ret
    refine ⟨ret_bool ?_, h0⟩
    have := HR.out
    cases r <;> simp at this ⊢ <;> omega
  by_cases c2 : 1048576 < xb
  · go_enter Try.func18, Try.ntmps18
    go_wp2
    go_ret
    refine ⟨ret_bool ?_, h0⟩
    have := HR.out
    cases r <;> simp at this ⊢ <;> omega
  have bX := Box.newAt w 34 [.int .i64 xb, .int .i64 xe, .bool xp, .int .i64 xv, .int .i64 xa] w.heap.size rfl
  have lX := bX.lt
  obtain ⟨r', hr'⟩ : ∃ r' : Bool, r' = true ↔ xe ≠ -1 := ⟨decide (xe ≠ -1), by simp⟩
  have HR' := Lib.hid hr'
  clear hr'
  go_enter Try.func18, Try.ntmps18
  go_wp2_with fail
  refine (HE.out _ r' HR'.out).mono ?_
  rintro e w1 ⟨rfl, hb1⟩
  have hb2 := h0.trans (hb1.mono (Nat.le_of_lt lX))
  have bX1 := bX.below hb1 lX
  have lX1 := bX1.lt
  have x0 : w1.cell? ⟨w.heap.size, 0, none⟩ = _ := bX1.cell 0
  have x1 : w1.cell? ⟨w.heap.size, 1, none⟩ = _ := bX1.cell 1
  simp only [List.getElem?_cons_zero, List.getElem?_cons_succ] at x0 x1
  clear bX bX1 lX hb1
  cases r' with
  | false =>
    have he : xe = -1 := by
      by_cases h : xe = -1
      · exact h
      · exact absurd (HR'.out.2 h) (by simp)
    subst he
    go_wp2
    go_ret
    refine ⟨?_, hb2⟩
    have := HR.out
    cases r <;> simp at this ⊢ <;> omega
  | true =>
    by_cases c3 : xb ≤ xe
    · go_wp2
      go_ret
      refine ⟨ret_bool ?_, hb2⟩
      have := HR.out
      cases r <;> simp at this ⊢ <;> omega
    · have HXE := Lib.hid (HR'.out.1 rfl)
      go_wp2
      go_ret
      refine ⟨ret_bool ?_, hb2⟩
      have := HR.out
      have := HXE.out
      cases r <;> simp at * <;> omega

set_option maxHeartbeats 2000000 in
theorem lin_validNumbers (w : World) (k : Int) (a : Ac) (r : Bool) (hk : 1 ≤ k ∧ k ≤ 4) (hr : r = true ↔ (a.add = 0 ∨ (k = 2 ∧ a.put = true)) ∧ (k = 1 ∨ k = 2 ∨ (-1 ≤ a.v ∧ (a.v = -1 → a.put = false)))) : Calls Try.prog 19 #[.int .i64 k, acA a] w fun e w' => e = .returned (.bool r) ∧ Below w.heap.size w w' := by
  have HR := Lib.hid hr
  clear hr
  obtain ⟨xb, xe, xp, xv, xa⟩ := a
  unfold acA
  have h0 := (Below.refl w.heap.size w).alloc (Nat.le_refl _) (Obj.cells #[.int .i64 xb, .int .i64 xe, .bool xp, .int .i64 xv, .int .i64 xa] 34)
  dsimp only
  by_cases k1 : k = 1
  · subst k1
    by_cases ha : xa = 0
    · subst ha
      go_enter Try.func19, Try.ntmps19
      go_wp2
      go_ret
      refine ⟨?_, h0⟩
      have := HR.out
      cases r <;> simp at this ⊢
    · go_enter Try.func19, Try.ntmps19
      go_wp2
      go_ret
      refine ⟨?_, h0⟩
      have := HR.out
      cases r <;> simp at this ⊢ <;> omega
  by_cases k2 : k = 2
  · subst k2
    cases xp with
    | true =>
      by_cases ha : xa = 0
      · subst ha
        go_enter Try.func19, Try.ntmps19
        go_wp2
        go_ret
        refine ⟨?_, h0⟩
        have := HR.out
        cases r <;> simp at this ⊢
      · go_enter Try.func19, Try.ntmps19
        go_wp2
        go_ret
        refine ⟨?_, h0⟩
        have := HR.out
        cases r <;> simp at this ⊢
    | false =>
      by_cases ha : xa = 0
      · subst ha
        go_enter Try.func19, Try.ntmps19
        go_wp2
        go_ret
        refine ⟨?_, h0⟩
        have := HR.out
        cases r <;> simp at this ⊢
      · go_enter Try.func19, Try.ntmps19
        go_wp2
        go_ret
        refine ⟨?_, h0⟩
        have := HR.out
        cases r <;> simp at this ⊢ <;> omega
  have HK1 := Lib.hid k1
  have HK2 := Lib.hid k2
  have kb1 : (k == 1) = false := by simp; omega
  have kb2 : (k == 2) = false := by simp; omega
  clear k1 k2 hk
  by_cases ha : xa = 0
  · subst ha
    by_cases hv : 0 ≤ xv
    · go_enter Try.func19, Try.ntmps19
      go_wp2
      go_ret
      refine ⟨?_, h0⟩
      have := HR.out
      have hk1 := HK1.out
      have hk2 := HK2.out
      cases r <;> simp [hk1, hk2] at this ⊢ <;> omega
    · by_cases hv1 : xv = -1
      · subst hv1
        cases xp with
        | true =>
          go_enter Try.func19, Try.ntmps19
          go_wp2
          go_ret
          refine ⟨?_, h0⟩
          have := HR.out
          have hk1 := HK1.out
          have hk2 := HK2.out
          cases r <;> simp [hk1, hk2] at this ⊢ <;> omega
        | false =>
          go_enter Try.func19, Try.ntmps19
          go_wp2
          go_ret
          refine ⟨?_, h0⟩
          have := HR.out
          have hk1 := HK1.out
          have hk2 := HK2.out
          cases r <;> simp [hk1, hk2] at this ⊢ <;> omega
      · go_enter Try.func19, Try.ntmps19
        go_wp2
        go_ret
        refine ⟨?_, h0⟩
        have := HR.out
        have hk1 := HK1.out
        have hk2 := HK2.out
        cases r <;> simp [hk1, hk2] at this ⊢ <;> omega
  · go_enter Try.func19, Try.ntmps19
    go_wp2
    go_ret
    refine ⟨?_, h0⟩
    have := HR.out
    have hk1 := HK1.out
    have hk2 := HK2.out
    cases r <;> simp [hk1, hk2] at this ⊢ <;> omega

theorem okA_iff (k : Int) (a : Ac) (hk : 1 ≤ k ∧ k ≤ 4) : okA k a ↔ ((0 ≤ a.b ∧ a.b ≤ 1048576) ∧ a.e ≤ 1048576 ∧ (a.b ≤ a.e ∨ a.e = -1)) ∧ ((a.add = 0 ∨ (k = 2 ∧ a.put = true)) ∧ (k = 1 ∨ k = 2 ∨ (-1 ≤ a.v ∧ (a.v = -1 → a.put = false)))) := by
  unfold okA
  have : k < 3 ↔ k = 1 ∨ k = 2 := by omega
  rw [this]
  constructor
  · rintro ⟨h1, h2, h3, h4, h5⟩; exact ⟨⟨h1, h2, h3⟩, h4, by rcases h5 with (h | h) | h; exact .inl h; exact .inr (.inl h); exact .inr (.inr h)⟩
  · rintro ⟨⟨h1, h2, h3⟩, h4, h5⟩; exact ⟨h1, h2, h3, h4, by rcases h5 with h | h | h; exact .inl (.inl h); exact .inl (.inr h); exact .inr h⟩

set_option maxHeartbeats 2000000 in
theorem lin_wrong (w : World) (g : Nat) (k : Int) (a : Ac) (r : Bool) (hk : 1 ≤ k ∧ k ≤ 4) (hbx : Box w g 3 [.int .i64 k]) (hr : r = true ↔ ¬ okA k a) :
    Calls Try.prog 17 #[acA a, .pointer (some ⟨g, 0, none⟩)] w fun e w' => e = .returned (.bool r) ∧ Below w.heap.size w w' := by
  obtain ⟨r1, hr1⟩ : ∃ r' : Bool, r' = true ↔ ((0 ≤ a.b ∧ a.b ≤ 1048576) ∧ a.e ≤ 1048576 ∧ (a.b ≤ a.e ∨ a.e = -1)) := bool_of _
  obtain ⟨r2, hr2⟩ : ∃ r' : Bool, r' = true ↔ ((a.add = 0 ∨ (k = 2 ∧ a.put = true)) ∧ (k = 1 ∨ k = 2 ∨ (-1 ≤ a.v ∧ (a.v = -1 → a.put = false)))) := bool_of _
  rw [okA_iff k a hk, ← hr1, ← hr2] at hr
  have H1 := Lib.hid (fun w => lin_validTimes w a r1 hr1)
  have H2 := Lib.hid (fun w => lin_validNumbers w k a r2 hk hr2)
  have HR := Lib.hid hr
  clear hr hr1 hr2
  obtain ⟨xb, xe, xp, xv, xa⟩ := a
  unfold acA at H1 H2 ⊢
  dsimp only at H1 H2 ⊢
  have h0 := (Below.refl w.heap.size w).alloc (Nat.le_refl _) (Obj.cells #[.int .i64 xb, .int .i64 xe, .bool xp, .int .i64 xv, .int .i64 xa] 34)
  have bX := Box.newAt w 34 [.int .i64 xb, .int .i64 xe, .bool xp, .int .i64 xv, .int .i64 xa] w.heap.size rfl
  have lX := bX.lt
  have bK := (hbx.alloc (Obj.cells #[.int .i64 xb, .int .i64 xe, .bool xp, .int .i64 xv, .int .i64 xa] 34))
  have lg := hbx.lt
  clear hbx
  go_enter Try.func17, Try.ntmps17
  go_wp2_with fail
  refine (H1.out _).mono ?_
  rintro e w1 ⟨rfl, hb1⟩
  have hb2 := h0.trans (hb1.mono (Nat.le_of_lt lX))
  have bX1 := bX.below hb1 lX
  have bK1 := bK.below hb1 bK.lt
  have lX1 := bX1.lt
  have x0 : w1.cell? ⟨w.heap.size, 0, none⟩ = _ := bX1.cell 0
  have x1 : w1.cell? ⟨w.heap.size, 1, none⟩ = _ := bX1.cell 1
  have x2 : w1.cell? ⟨w.heap.size, 2, none⟩ = _ := bX1.cell 2
  have x3 : w1.cell? ⟨w.heap.size, 3, none⟩ = _ := bX1.cell 3
  have x4 : w1.cell? ⟨w.heap.size, 4, none⟩ = _ := bX1.cell 4
  have y0 : w1.cell? ⟨g, 0, none⟩ = _ := bK1.cell 0
  simp only [List.getElem?_cons_zero, List.getElem?_cons_succ] at x0 x1 x2 x3 x4 y0
  clear bX bX1 bK bK1 hb1
  cases r1 with
  | false =>
    go_wp2
    go_ret
    refine ⟨?_, hb2⟩
    have := HR.out
    cases r <;> simp at this ⊢
  | true =>
    go_wp2_with fail
    refine (H2.out _).mono ?_
    rintro e w2 ⟨rfl, hb3⟩
    have hb4 := hb2.trans (hb3.mono (by omega))
    go_wp2
    go_ret
    refine ⟨ret_bool ?_, hb4⟩
    have := HR.out
    cases r <;> cases r2 <;> simp at this ⊢

set_option maxHeartbeats 2000000 in
theorem lin_IndexFunc (w : World) (g : Nat) (k : Int) (A : Option Addr) (n c B : Nat) (t : List Ac) (r : Bool) (hk : 1 ≤ k ∧ k ≤ 4) (hbx : Box w g 3 [.int .i64 k]) (hl : RA w B A n t) (hB : B ≤ w.heap.size) (hn : n ≤ 9) (hr : r = true ↔ ¬ ∀ a ∈ t, okA k a) :
    Calls Try.prog 26 #[.slice A n c, .func (.func 17) #[] #[.pointer (some ⟨g, 0, none⟩)]] w fun e w' => (∃ i : Int, e = .returned (.int .i64 i) ∧ -1 ≤ i ∧ i ≤ 20 ∧ (r = true ↔ 0 ≤ i)) ∧ Below w.heap.size w w' := by
  have h0 := Below.refl w.heap.size w
  have LT := Lib.hid hl.len
  have HR := Lib.hid hr
  clear hr
  go_enter Try.func26, Try.ntmps26
  go_wp2
  go_loopw [8] (fun i wr => ∃ j : Nat, j ≤ n ∧ i = .int .i64 j ∧ Hid (∀ a ∈ t.take j, okA k a) ∧ Below w.heap.size w wr) (fun i _ => n - (intOf i).toNat)
  case atStart => exact ⟨0, Nat.zero_le _, rfl, by intro c h; simp at h, h0⟩
  case round =>
    obtain ⟨j, hj, rfl, HC, hbel⟩ := hrel
    have hsz := hbel.size
    have hbw := hbx.below hbel hbx.lt
    by_cases hjm : j < n
    · obtain ⟨b, o, x, rfl, hbB, d0, d1, d2, d3, d4, HX, hmem⟩ := hl.val hjm
      have e0 := (hbel.cell (p := ⟨b, o + j * 5, none⟩) (by show b < _; omega)).trans d0
      have e1 := (hbel.cell (p := ⟨b, o + j * 5 + 1, none⟩) (by show b < _; omega)).trans d1
      have e2 := (hbel.cell (p := ⟨b, o + j * 5 + 2, none⟩) (by show b < _; omega)).trans d2
      have e3 := (hbel.cell (p := ⟨b, o + j * 5 + 3, none⟩) (by show b < _; omega)).trans d3
      have e4 := (hbel.cell (p := ⟨b, o + j * 5 + 4, none⟩) (by show b < _; omega)).trans d4
      obtain ⟨r', hr'⟩ : ∃ r' : Bool, r' = true ↔ ¬ okA k x := bool_of _
      have HR' := Lib.hid hr'
      have HMem := Lib.hid hmem
      clear hr' hmem d0 d1 d2 d3 d4
      go_wp2_with fail
      refine (lin_wrong _ g k x r' hk hbw HR'.out).mono ?_
      rintro e w1 ⟨rfl, hb1⟩
      have hb2 := hbel.trans (hb1.mono hsz)
      cases r' with
      | true =>
        go_wp2
        go_ret
        refine ⟨⟨j, rfl, by omega, by omega, ?_⟩, hb2⟩
        refine ⟨fun _ => by omega, fun _ => HR.out.2 fun hall => ?_⟩
        exact HR'.out.1 (by first | rfl | trivial) (hall _ HMem.out)
      | false =>
        have HOK : Hid (okA k x) := by
          show okA k x
          by_cases h : okA k x
          · exact h
          · exact absurd (HR'.out.2 h) (by simp)
        go_wp2
        go_roundw
        case rel =>
          refine ⟨j + 1, by omega, by go_num, ?_, hb2⟩
          intro d hd
          rw [at_take HX.out] at hd
          rcases List.mem_append.1 hd with hd | hd
          · exact HC.out d hd
          · rw [List.mem_singleton.1 hd]; exact HOK.out
        case measure => simp [intOf]; omega
    · obtain rfl : n = j := by omega
      have HC2 := HC.out
      rw [List.take_of_length_le (by rw [LT.out]; omega)] at HC2
      have HC := Lib.hid HC2
      clear HC2
      go_wp2
      go_ret
      refine ⟨⟨-1, rfl, by omega, by omega, ?_⟩, hbel⟩
      refine ⟨fun hrt => absurd HC.out (HR.out.1 hrt), fun h => by omega⟩

set_option maxHeartbeats 1000000 in
theorem lin_ContainsFunc (w : World) (g : Nat) (k : Int) (A : Option Addr) (n c B : Nat) (t : List Ac) (r : Bool) (hk : 1 ≤ k ∧ k ≤ 4) (hbx : Box w g 3 [.int .i64 k]) (hl : RA w B A n t) (hB : B ≤ w.heap.size) (hn : n ≤ 9) (hr : r = true ↔ ¬ ∀ a ∈ t, okA k a) :
    Calls Try.prog 20 #[.slice A n c, .func (.func 17) #[] #[.pointer (some ⟨g, 0, none⟩)]] w fun e w' => e = .returned (.bool r) ∧ Below w.heap.size w w' := by
  have HC := Lib.hid (lin_IndexFunc w g k A n c B t r hk hbx hl hB hn hr)
  clear hbx hl hr
  go_enter Try.func20, Try.ntmps20
  go_wp2_with fail
  refine HC.out.mono ?_
  rintro e w1 ⟨⟨i, rfl, h1, h2, h3⟩, hb1⟩
  have H3 := Lib.hid h3
  clear h3
  go_wp2
  go_ret
  refine ⟨ret_bool ?_, hb1⟩
  have := H3.out
  cases r <;> simp at this ⊢ <;> omega

set_option maxRecDepth 100000 in
set_option maxHeartbeats 2000000 in
theorem lin_May : LinMaySpec := by
  intro w A n c l k r h hn hlc hi hr
  have HR := Lib.hid hr
  have HL := Lib.hid h.len
  clear hr
  have h0 : Below w.heap.size w w := Below.refl _ _
  have hA := h0.alloc (Nat.le_refl _) (Obj.cells #[.int .i64 k] 3)
  have bX := Box.newAt w 3 [.int .i64 k] w.heap.size rfl
  have fin : ¬ okL k l → r = false := fun h => by
    cases r with
    | false => rfl
    | true => exact absurd (HR.out.1 rfl) h
  by_cases c1 : k < 1
  · have hv := fin fun h => by have := h.1; omega
    go_enter Try.func10, Try.ntmps10
    go_wp2
    go_ret
    exact ⟨by first | rfl | exact ret_bool hv.symm, hA⟩
  by_cases c2 : 4 < k
  · have hv := fin fun h => by have := h.1; omega
    go_enter Try.func10, Try.ntmps10
    go_wp2
    go_ret
    exact ⟨by first | rfl | exact ret_bool hv.symm, hA⟩
  by_cases c3 : 9 < n
  · have hv := fin fun h => by have := h.2.1; rw [HL.out] at this; omega
    go_enter Try.func10, Try.ntmps10
    go_wp2
    go_ret
    exact ⟨by first | rfl | exact ret_bool hv.symm, hA⟩
  clear fin
  obtain ⟨r', hr'⟩ : ∃ r' : Bool, r' = true ↔ ¬ ∀ a ∈ l, okA k a := bool_of _
  have HR' := Lib.hid hr'
  clear hr'
  have lX := bX.lt
  go_enter Try.func10, Try.ntmps10
  go_wp2_with fail
  refine (lin_ContainsFunc _ w.heap.size k A n c w.heap.size l r' (by omega) bX (h.below hA) (by omega) (by omega) HR'.out).mono ?_
  rintro e w1 ⟨rfl, hb1⟩
  have hb2 := hA.trans (hb1.mono (Nat.le_of_lt lX))
  have HRR : Hid (r = !r') := by
    show r = !r'
    have h1 := HR.out
    have h2 := HR'.out
    have h3 : okL k l ↔ ∀ a ∈ l, okA k a := ⟨fun h => h.2.2, fun h => ⟨by omega, by rw [HL.out]; omega, h⟩⟩
    rw [h3] at h1
    cases r <;> cases r' <;> simp at h1 h2 ⊢
    · obtain ⟨x, hx, hx2⟩ := h1; exact absurd (h2 x hx) hx2
    · obtain ⟨x, hx, hx2⟩ := h2; exact absurd (h1 x hx) hx2
  go_wp2
  go_ret
  exact ⟨ret_bool HRR.out.symm, hb2⟩
end Go.Proofs.Ytdoniefhmmodbaa
