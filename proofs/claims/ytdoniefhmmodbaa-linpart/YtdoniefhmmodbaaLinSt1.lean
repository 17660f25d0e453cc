/- What the methods of the states of lin do: registers and counters. No statement of the seat is proved here; no condition. -/
import Derived.Test.YtdoniefhmmodbaaLinMem
set_option linter.unusedSimpArgs false
set_option linter.unusedVariables false
namespace Go.Proofs.Ytdoniefhmmodbaa
open Go.RowKit Go.Ord Go.Baro

set_option maxHeartbeats 1000000 in
theorem reg_next (w : World) (x : Int) (a : Ac) : Calls Try.prog 50 #[.int .i64 x, acA a] w fun e w' => e = .returned (.tuple #[.iface 65 (.int .i64 (if a.put = true then a.v else x)), .int .i64 (if a.put = true then a.v else x)]) ∧ Below w.heap.size w w' := by
  obtain ⟨xb, xe, xp, xv, xa⟩ := a
  unfold acA
  have h0 := (Below.refl w.heap.size w).alloc (Nat.le_refl _) (Obj.cells #[.int .i64 xb, .int .i64 xe, .bool xp, .int .i64 xv, .int .i64 xa] 34)
  dsimp only
  cases xp with
  | true =>
    go_enter Try.func50, Try.ntmps50
    go_wp2
    refine region_two [0, 1, 2, 3, 4, 5, 6] [] (by kernel_rfl) (by kernel_rfl) ?_
    simp only [pick, List.map_cons, List.map_nil, List.getD_cons_zero, List.getD_cons_succ]
    go_wp2
    go_ret2
    exact ⟨rfl, h0.drew⟩
  | false =>
    go_enter Try.func50, Try.ntmps50
    go_wp2
    go_ret2
    exact ⟨rfl, h0⟩
set_option maxHeartbeats 1000000 in
theorem reg_same (w : World) (x y : Int) (r : Bool) (hr : r = true ↔ y = x) : Calls Try.prog 51 #[.int .i64 x, .iface 65 (.int .i64 y)] w fun e w' => e = .returned (.bool r) ∧ Below w.heap.size w w' := by
  have HR := Lib.hid hr
  have h0 := Below.refl w.heap.size w
  clear hr
  have ta : (Instr.typeAssert (.iface 65 (.int .i64 y)) 49 65 true).run Try.prog w = .ok (.tuple #[.int .i64 y, .bool true]) w := by kernel_rfl
  go_enter Try.func51, Try.ntmps51
  go_wp2
  go_ret
  refine ⟨ret_bool ?_, h0⟩
  have := HR.out
  cases r <;> simp at this ⊢ <;> exact this
set_option maxHeartbeats 1000000 in
theorem reg_digest (w : World) (x : Int) : Calls Try.prog 49 #[.int .i64 x] w fun e w' => (∃ g, e = .returned (.int .u64 g)) ∧ Below w.heap.size w w' := by
  have h0 := Below.refl w.heap.size w
  go_enter Try.func49, Try.ntmps49
  go_wp2
  go_ret
  exact ⟨⟨_, rfl⟩, h0⟩
set_option maxHeartbeats 1000000 in
theorem cnt_next (w : World) (x : Int) (a : Ac) (hx : inW x) (ha : a.put = false → a.add = 0) : Calls Try.prog 53 #[.int .i64 x, acA a] w fun e w' => e = .returned (.tuple #[.iface 66 (.int .i64 (wrap64 (x + a.add))), .int .i64 x]) ∧ Below w.heap.size w w' := by
  obtain ⟨xb, xe, xp, xv, xa⟩ := a
  unfold acA
  have h0 := (Below.refl w.heap.size w).alloc (Nat.le_refl _) (Obj.cells #[.int .i64 xb, .int .i64 xe, .bool xp, .int .i64 xv, .int .i64 xa] 34)
  dsimp only at ha ⊢
  cases xp with
  | true =>
    clear ha
    go_enter Try.func53, Try.ntmps53
    go_wp2
    go_ret2
    exact ⟨rfl, h0⟩
  | false =>
    have hw : wrap64 (x + xa) = x := by rw [ha rfl, Int.add_zero]; unfold inW at hx; unfold wrap64; omega
    rw [hw]
    clear ha hw
    go_enter Try.func53, Try.ntmps53
    go_wp2
    go_ret2
    exact ⟨rfl, h0⟩
set_option maxHeartbeats 1000000 in
theorem cnt_same (w : World) (x y : Int) (r : Bool) (hr : r = true ↔ y = x) : Calls Try.prog 54 #[.int .i64 x, .iface 66 (.int .i64 y)] w fun e w' => e = .returned (.bool r) ∧ Below w.heap.size w w' := by
  have HR := Lib.hid hr
  have h0 := Below.refl w.heap.size w
  clear hr
  have ta : (Instr.typeAssert (.iface 66 (.int .i64 y)) 49 66 true).run Try.prog w = .ok (.tuple #[.int .i64 y, .bool true]) w := by kernel_rfl
  go_enter Try.func54, Try.ntmps54
  go_wp2
  go_ret
  refine ⟨ret_bool ?_, h0⟩
  have := HR.out
  cases r <;> simp at this ⊢ <;> exact this
set_option maxHeartbeats 1000000 in
theorem cnt_digest (w : World) (x : Int) : Calls Try.prog 52 #[.int .i64 x] w fun e w' => (∃ g, e = .returned (.int .u64 g)) ∧ Below w.heap.size w w' := by
  have h0 := Below.refl w.heap.size w
  go_enter Try.func52, Try.ntmps52
  go_wp2
  go_ret
  exact ⟨⟨_, rfl⟩, h0⟩
end Go.Proofs.Ytdoniefhmmodbaa
