/- Which codes package vm takes as valid, and what it reckons. No statement of the seat is proved here; no condition. -/
import Derived.Test.YtjihopbapnfppaaDoorVmPure2
import Derived.Test.YtjihopbapnfppaaDoorLibO
set_option linter.unusedSimpArgs false
set_option linter.unusedVariables false
namespace Go.Proofs.YtjihopbapnfppaaDoor
open Go.RowKit Go.Ord Go.Baro

theorem vm_truth (b : Bool) (w : World) : Calls Tryd.prog 60 #[.bool b] w fun e w' => e = .returned (.int .i64 (if b then 1 else 0)) ∧ w = w' := by
  cases b with
  | false =>
    go_enter Tryd.func60, Tryd.ntmps60
    go_wp2
    go_ret
    exact ⟨rfl, rfl⟩
  | true =>
    go_enter Tryd.func60, Tryd.ntmps60
    go_wp2
    go_ret
    exact ⟨rfl, rfl⟩

set_option maxHeartbeats 1000000 in
theorem vm_allows (o n : Int) (len : Nat) (r : Bool) (w : World) (ho : 0 ≤ o ∧ o ≤ 3) (hr : r = true ↔ alw o n len) :
    Calls Tryd.prog 48 #[.int .i64 o, .int .i64 n, .int .i64 len] w fun e w' => e = .returned (.bool r) ∧ w = w' := by
  have H := Lib.hid hr
  clear hr
  rcases (by omega : o = 0 ∨ o = 1 ∨ o = 2 ∨ o = 3) with rfl | rfl | rfl | rfl
  · go_enter Tryd.func48, Tryd.ntmps48
    go_wp2
    go_ret
    refine ⟨ret_bool ?_, rfl⟩
    have := H.out
    simp [alw] at this
    cases r <;> simp at this ⊢ <;> omega
  · by_cases h : 0 ≤ n
    · go_enter Tryd.func48, Tryd.ntmps48
      go_wp2
      go_ret
      refine ⟨ret_bool ?_, rfl⟩
      have := H.out
      simp [alw] at this
      cases r <;> simp at this ⊢ <;> omega
    · go_enter Tryd.func48, Tryd.ntmps48
      go_wp2
      go_ret
      refine ⟨ret_bool ?_, rfl⟩
      have := H.out
      simp [alw] at this
      cases r <;> simp at this ⊢ <;> omega
  · by_cases h : 0 ≤ n
    · go_enter Tryd.func48, Tryd.ntmps48
      go_wp2
      go_ret
      refine ⟨ret_bool ?_, rfl⟩
      have := H.out
      simp [alw] at this
      cases r <;> simp at this ⊢ <;> omega
    · go_enter Tryd.func48, Tryd.ntmps48
      go_wp2
      go_ret
      refine ⟨ret_bool ?_, rfl⟩
      have := H.out
      simp [alw] at this
      cases r <;> simp at this ⊢ <;> omega
  · go_enter Tryd.func48, Tryd.ntmps48
    go_wp2
    go_ret
    refine ⟨ret_bool ?_, rfl⟩
    have := H.out
    simp [alw] at this
    simp [this]

theorem ix_row0 (a b c d : Int) (W : World) : (Instr.index 92 (.agg #[.int .i64 a, .int .i64 b, .int .i64 c, .int .i64 d]) (.int .i64 0)).run Tryd.prog W = .ok (.int .i64 a) W := by kernel_rfl
theorem ix_row1 (a b c d : Int) (W : World) : (Instr.index 92 (.agg #[.int .i64 a, .int .i64 b, .int .i64 c, .int .i64 d]) (.int .i64 1)).run Tryd.prog W = .ok (.int .i64 b) W := by kernel_rfl
theorem ix_row2 (a b c d : Int) (W : World) : (Instr.index 92 (.agg #[.int .i64 a, .int .i64 b, .int .i64 c, .int .i64 d]) (.int .i64 2)).run Tryd.prog W = .ok (.int .i64 c) W := by kernel_rfl
theorem ix_row3 (a b c d : Int) (W : World) : (Instr.index 92 (.agg #[.int .i64 a, .int .i64 b, .int .i64 c, .int .i64 d]) (.int .i64 3)).run Tryd.prog W = .ok (.int .i64 d) W := by kernel_rfl
set_option maxRecDepth 100000 in
theorem ix_row (a b c d : Int) (W : World) (j : Nat) (x : Int) (h : [a, b, c, d][j]? = some x) : (Instr.index 92 (.agg #[.int .i64 a, .int .i64 b, .int .i64 c, .int .i64 d]) (.int .i64 j)).run Tryd.prog W = .ok (.int .i64 x) W := by
  have hj : j < 4 := (List.getElem?_eq_some_iff.1 h).1
  rcases (by omega : j = 0 ∨ j = 1 ∨ j = 2 ∨ j = 3) with rfl | rfl | rfl | rfl
  · injection h with h; subst h; exact ix_row0 _ _ _ _ W
  · injection h with h; subst h; exact ix_row1 _ _ _ _ W
  · injection h with h; subst h; exact ix_row2 _ _ _ _ W
  · injection h with h; subst h; exact ix_row3 _ _ _ _ W

theorem alw_four {a b c d A B C D : Int} {len : Nat} : (alw a A len ∧ alw b B len ∧ alw c C len ∧ alw d D len) ↔ ∀ (j : Nat) (x y : Int), [a, b, c, d][j]? = some x → [A, B, C, D][j]? = some y → alw x y len := by
  constructor
  · rintro ⟨h0, h1, h2, h3⟩ j x y hx hy
    have hj : j < 4 := (List.getElem?_eq_some_iff.1 hx).1
    rcases (by omega : j = 0 ∨ j = 1 ∨ j = 2 ∨ j = 3) with rfl | rfl | rfl | rfl <;> (simp at hx hy; subst hx hy; assumption)
  · intro h
    exact ⟨h 0 _ _ rfl rfl, h 1 _ _ rfl rfl, h 2 _ _ rfl rfl, h 3 _ _ rfl rfl⟩

set_option maxRecDepth 100000 in
set_option maxHeartbeats 2000000 in
theorem vm_valid (k A B C D : Int) (len : Nat) (r : Bool) (w : World) (hT : Tab w) (hr : r = true ↔ okI len ⟨k, A, B, C, D⟩) (hlen : len ≤ 200) :
    Calls Tryd.prog 34 #[.agg #[.int .i64 k, .int .i64 A, .int .i64 B, .int .i64 C, .int .i64 D], .int .i64 len] w fun e w' => e = .returned (.bool r) ∧ Below w.heap.size w w' := by
  have h0 : Below w.heap.size w w := Below.refl _ _
  by_cases hk : 1 ≤ k ∧ k ≤ 17
  · obtain ⟨kn, rfl⟩ : ∃ kn : Nat, k = kn := ⟨k.toNat, by omega⟩
    have hk1 : 1 ≤ kn := by omega
    have hk2 : kn ≤ 17 := by omega
    clear hk
    obtain ⟨a, b, c, d, hrow⟩ := row_at (k := kn) (by omega)
    rw [okI_row hk1 hrow, alw_four] at hr
    have H := Lib.hid hr
    clear hr
    obtain ⟨sa, sb, sc, sd⟩ := row_small hrow
    obtain ⟨t0, t1, t2, t3⟩ := hT kn a b c d hrow
    have hlt := hT.lt
    have hA := (h0.alloc (Nat.le_refl _) (Obj.cells #[.int .i64 kn, .int .i64 A, .int .i64 B, .int .i64 C, .int .i64 D] 37)).alloc (by simp) (Obj.cells #[.int .i64 A, .int .i64 B, .int .i64 C, .int .i64 D] 90)
    have HS := Lib.hid (show ∀ x ∈ [a, b, c, d], 0 ≤ x ∧ x ≤ 3 by simp; exact ⟨sa, sb, sc, sd⟩)
    clear hrow hT sa sb sc sd
    have bx := Box.newAt (w.alloc (Obj.cells #[.int .i64 kn, .int .i64 A, .int .i64 B, .int .i64 C, .int .i64 D] 37)) 90 [.int .i64 A, .int .i64 B, .int .i64 C, .int .i64 D] (w.heap.size + 1) (by simp)
    go_enter Tryd.func34, Tryd.ntmps34
    go_wp2
    clear t0 t1 t2 t3
    go_loop [29] (fun i => ∃ j : Nat, j ≤ 4 ∧ i = .int .i64 j ∧ Hid (∀ (q : Nat) (x y : Int), q < j → [a, b, c, d][q]? = some x → [A, B, C, D][q]? = some y → alw x y len)) (fun i => 4 - (intOf i).toNat)
    case atStart => exact ⟨0, Nat.zero_le _, rfl, fun q x y hq => absurd hq (by omega)⟩
    case round =>
      obtain ⟨j, hj, rfl, HC⟩ := hrel
      by_cases hj4 : j < 4
      · obtain ⟨x, hx⟩ : ∃ x, [a, b, c, d][j]? = some x := ⟨_, List.getElem?_eq_getElem (by simpa using hj4)⟩
        obtain ⟨y, hy⟩ : ∃ y, [A, B, C, D][j]? = some y := ⟨_, List.getElem?_eq_getElem (by simpa using hj4)⟩
        have hix := fun W => ix_row a b c d W j x hx
        have hcy : ((w.alloc (Obj.cells #[.int .i64 kn, .int .i64 A, .int .i64 B, .int .i64 C, .int .i64 D] 37)).alloc (Obj.cells #[.int .i64 A, .int .i64 B, .int .i64 C, .int .i64 D] 90)).cell? ⟨w.heap.size + 1, j, none⟩ = some (.int .i64 y) := by
          have := bx.cell j
          rw [show ([.int .i64 A, .int .i64 B, .int .i64 C, .int .i64 D] : List Value) = [A, B, C, D].map (Value.int .i64) from rfl, List.getElem?_map, hy] at this
          exact this
        have hsx := HS.out x (List.mem_of_getElem? hx)
        have HX := Lib.hid hx
        have HY := Lib.hid hy
        clear hx hy
        by_cases hal : alw x y len
        · have HAL := Lib.hid hal
          clear hal
          go_wp2_with fail
          refine (vm_allows x y len true _ hsx (by simp; exact HAL.out)).mono ?_
          rintro e w' ⟨rfl, rfl⟩
          go_wp2
          go_round
          case rel =>
            refine ⟨j + 1, by omega, by go_num, ?_⟩
            intro q x' y' hq hx' hy'
            by_cases hqj : q = j
            · subst hqj
              rw [HX.out] at hx'; rw [HY.out] at hy'
              injection hx' with hx'; injection hy' with hy'
              subst hx' hy'
              exact HAL.out
            · exact HC.out q x' y' (by omega) hx' hy'
          case measure => simp [intOf]; omega
        · have HAL := Lib.hid hal
          clear hal
          go_wp2_with fail
          refine (vm_allows x y len false _ hsx (by simp; exact HAL.out)).mono ?_
          rintro e w' ⟨rfl, rfl⟩
          go_wp2
          go_ret
          refine ⟨ret_bool ?_, hA⟩
          cases r with
          | false => rfl
          | true => exact absurd (H.out.1 rfl j x y HX.out HY.out) HAL.out
      · have : j = 4 := by omega
        subst this
        go_wp2
        go_ret
        refine ⟨ret_bool ?_, hA⟩
        exact (H.out.2 fun q x y hx hy => HC.out q x y (List.getElem?_eq_some_iff.1 hx).1 hx hy).symm
  · have hrf : r = false := by
      cases r with
      | false => rfl
      | true => exact absurd (okI_kind (hr.1 rfl)) hk
    subst hrf
    clear hr
    by_cases h1 : k < 1
    · go_enter Tryd.func34, Tryd.ntmps34
      go_wp2
      go_ret
      exact ⟨rfl, h0.alloc (Nat.le_refl _) _⟩
    · have h2 : 17 < k := by omega
      go_enter Tryd.func34, Tryd.ntmps34
      go_wp2
      go_ret
      exact ⟨rfl, h0.alloc (Nat.le_refl _) _⟩
end Go.Proofs.YtjihopbapnfppaaDoor
