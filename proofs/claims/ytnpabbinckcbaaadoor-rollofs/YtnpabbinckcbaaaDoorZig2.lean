/- What firstFit and Size do. No statement of the seat is proved here; no condition. -/
import Derived.Test.YtnpabbinckcbaaaDoorZig1
import Derived.Test.YtnpabbinckcbaaaDoorDoor
import Derived.Laws.Rows
set_option linter.unusedSimpArgs false
set_option linter.unusedVariables false
namespace Go.Proofs.YtnpabbinckcbaaaDoor
open Go.RowKit Go.Ord Go.Baro

/-- An entry of the table, as a value. -/
def preV (k : Nat) : Value := .agg #[.int .i64 (zlen k), .int .i64 (zpre k), .int .i64 (zwid k)]

theorem shr_pos (x : Int) (k : Nat) (h : 0 ≤ x) : (0 < x / 2 ^ k) = (2 ^ k ≤ x) := by
  have hp : (0 : Int) < 2 ^ k := Int.pow_pos (by decide)
  apply propext
  constructor
  · intro h1
    have := (Int.le_ediv_iff_mul_le hp).1 (show 1 ≤ x / 2 ^ k by omega)
    omega
  · intro h1
    have := (Int.le_ediv_iff_mul_le hp).2 (show 1 * 2 ^ k ≤ x by omega)
    omega

set_option maxHeartbeats 1000000 in
theorem zig_firstFit (x : Int) (w : World) (hT : Tab w) (h0 : 0 ≤ x) (h1 : x < 576460752303423488) :
    Calls Tryd.prog 32 #[.int .i64 x] w fun e w' => e = .returned (preV (zk x)) ∧ Below w.heap.size w w' := by
  have hlt := hT.lt
  have t2 := hT 2 0 rfl
  have t5 := hT 5 6 rfl
  have t8 := hT 8 12 rfl
  have t11 := hT 11 24 rfl
  go_enter Tryd.func32, Tryd.ntmps32
  go_wp2
  go_loopw [3] (fun i wr => ∃ j : Nat, j ≤ zk x ∧ i = .int .i64 j ∧ wr = w.alloc (.cells #[.int .i64 0, .int .i64 0, .int .i64 0] 70)) (fun i _ => 4 - (intOf i).toNat)
  case atStart => exact ⟨0, Nat.zero_le _, rfl, rfl⟩
  case round =>
    obtain ⟨j, hj, rfl, rfl⟩ := hrel
    rcases zk_cases x with ⟨hx, hk⟩ | ⟨hx, hx', hk⟩ | ⟨hx, hx', hk⟩ | ⟨hx, hx', hk⟩ | ⟨hx, hk⟩
    · have HK := Lib.hid hk
      have hj2 : j ≤ 0 := by omega
      have q0 : x ≤ 0 := by omega
      clear hk hj
      have hjc : j = 0 := by omega
      clear hj2
      subst hjc
      · have e0 := hT 0 _ rfl
        have e1 := hT 1 _ rfl
        have e2 := hT 2 _ rfl
        go_wp2
        refine bodyPost_ret (results_cell_row rfl _ _ w.heap.size _ _ _ _ rfl (heap_alloc_new w _) Tryd.underlying70 rfl (by kernel_rfl)) rfl ?_
        exact ⟨by rw [HK.out]; rfl, (Below.refl _ _).alloc (Nat.le_refl _) _⟩
    · have HK := Lib.hid hk
      have hj2 : j ≤ 1 := by omega
      have q0 : 0 < x := by omega
      have q1 : x / 64 ≤ 0 := by omega
      clear hk hj
      have hjc : j = 0 ∨ j = 1 := by omega
      clear hj2
      rcases hjc with rfl | rfl
      · go_wp2
        go_roundw
        case rel => exact ⟨1, by rw [HK.out]; decide, by simp⟩
        case measure => simp [intOf]
      · have e0 := hT 3 _ rfl
        have e1 := hT 4 _ rfl
        have e2 := hT 5 _ rfl
        go_wp2
        refine bodyPost_ret (results_cell_row rfl _ _ w.heap.size _ _ _ _ rfl (heap_alloc_new w _) Tryd.underlying70 rfl (by kernel_rfl)) rfl ?_
        exact ⟨by rw [HK.out]; rfl, (Below.refl _ _).alloc (Nat.le_refl _) _⟩
    · have HK := Lib.hid hk
      have hj2 : j ≤ 2 := by omega
      have q0 : 0 < x := by omega
      have q1 : 0 < x / 64 := by omega
      have q2 : x / 4096 ≤ 0 := by omega
      clear hk hj
      have hjc : j = 0 ∨ j = 1 ∨ j = 2 := by omega
      clear hj2
      rcases hjc with rfl | rfl | rfl
      · go_wp2
        go_roundw
        case rel => exact ⟨1, by rw [HK.out]; decide, by simp⟩
        case measure => simp [intOf]
      · go_wp2
        go_roundw
        case rel => exact ⟨2, by rw [HK.out]; decide, by simp⟩
        case measure => simp [intOf]
      · have e0 := hT 6 _ rfl
        have e1 := hT 7 _ rfl
        have e2 := hT 8 _ rfl
        go_wp2
        refine bodyPost_ret (results_cell_row rfl _ _ w.heap.size _ _ _ _ rfl (heap_alloc_new w _) Tryd.underlying70 rfl (by kernel_rfl)) rfl ?_
        exact ⟨by rw [HK.out]; rfl, (Below.refl _ _).alloc (Nat.le_refl _) _⟩
    · have HK := Lib.hid hk
      have hj2 : j ≤ 3 := by omega
      have q0 : 0 < x := by omega
      have q1 : 0 < x / 64 := by omega
      have q2 : 0 < x / 4096 := by omega
      have q3 : x / 16777216 ≤ 0 := by omega
      clear hk hj
      have hjc : j = 0 ∨ j = 1 ∨ j = 2 ∨ j = 3 := by omega
      clear hj2
      rcases hjc with rfl | rfl | rfl | rfl
      · go_wp2
        go_roundw
        case rel => exact ⟨1, by rw [HK.out]; decide, by simp⟩
        case measure => simp [intOf]
      · go_wp2
        go_roundw
        case rel => exact ⟨2, by rw [HK.out]; decide, by simp⟩
        case measure => simp [intOf]
      · go_wp2
        go_roundw
        case rel => exact ⟨3, by rw [HK.out]; decide, by simp⟩
        case measure => simp [intOf]
      · have e0 := hT 9 _ rfl
        have e1 := hT 10 _ rfl
        have e2 := hT 11 _ rfl
        go_wp2
        refine bodyPost_ret (results_cell_row rfl _ _ w.heap.size _ _ _ _ rfl (heap_alloc_new w _) Tryd.underlying70 rfl (by kernel_rfl)) rfl ?_
        exact ⟨by rw [HK.out]; rfl, (Below.refl _ _).alloc (Nat.le_refl _) _⟩
    · have HK := Lib.hid hk
      have hj2 : j ≤ 4 := by omega
      have q0 : 0 < x := by omega
      have q1 : 0 < x / 64 := by omega
      have q2 : 0 < x / 4096 := by omega
      have q3 : 0 < x / 16777216 := by omega
      clear hk hj
      have hjc : j = 0 ∨ j = 1 ∨ j = 2 ∨ j = 3 ∨ j = 4 := by omega
      clear hj2
      rcases hjc with rfl | rfl | rfl | rfl | rfl
      · go_wp2
        go_roundw
        case rel => exact ⟨1, by rw [HK.out]; decide, by simp⟩
        case measure => simp [intOf]
      · go_wp2
        go_roundw
        case rel => exact ⟨2, by rw [HK.out]; decide, by simp⟩
        case measure => simp [intOf]
      · go_wp2
        go_roundw
        case rel => exact ⟨3, by rw [HK.out]; decide, by simp⟩
        case measure => simp [intOf]
      · go_wp2
        go_roundw
        case rel => exact ⟨4, by rw [HK.out]; decide, by simp⟩
        case measure => simp [intOf]
      · have e0 := hT 12 _ rfl
        have e1 := hT 13 _ rfl
        have e2 := hT 14 _ rfl
        go_wp2
        refine bodyPost_ret (results_cell_row rfl _ _ w.heap.size _ _ _ _ rfl (heap_alloc_new w _) Tryd.underlying70 rfl (by kernel_rfl)) rfl ?_
        exact ⟨by rw [HK.out]; rfl, (Below.refl _ _).alloc (Nat.le_refl _) _⟩

end Go.Proofs.YtnpabbinckcbaaaDoor
