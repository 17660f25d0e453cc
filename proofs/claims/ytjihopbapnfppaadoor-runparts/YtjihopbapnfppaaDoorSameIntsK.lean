/- Two lists of numbers are compared. No statement of the seat is proved here; no condition. -/
import Derived.Test.YtjihopbapnfppaaDoorRows
import Derived.Test.YtjihopbapnfppaaDoorLib
set_option linter.unusedSimpArgs false
set_option linter.unusedVariables false
namespace Go.Proofs.YtjihopbapnfppaaDoor
open Go.RowKit Go.Ord Go.Baro

set_option maxHeartbeats 1000000 in
theorem keep_sameInts (xs ys : List Int) (A A' : Option Addr) (n c n' c' : Nat) (w : World) (B B' : Nat) (r : Bool) (h : RI w B .i64 A n xs) (h' : RI w B' .i64 A' n' ys) (hr : r = true ↔ xs = ys) (hn : n ≤ 140737488355328) (hn' : n' ≤ 140737488355328) :
    Calls Tryd.prog 23 #[.slice A n c, .slice A' n' c'] w fun e w' => e = .returned (.bool r) ∧ ∃ m, w' = w.drewN m := by
  have HL := Lib.hid h.len
  have HL' := Lib.hid h'.len
  have HR := Lib.hid hr
  clear hr
  by_cases hne : n = n'
  · subst hne
    go_enter Tryd.func23, Tryd.ntmps23
    go_wp2
    go_loopw [5] (fun i wr => ∃ j : Nat, j ≤ n ∧ i = .int .i64 j ∧ Hid (xs.take j = ys.take j) ∧ ∃ m, wr = w.drewN m) (fun i _ => n - (intOf i).toNat)
    case atStart => exact ⟨0, Nat.zero_le _, rfl, rfl, 0, rfl⟩
    case round =>
      obtain ⟨j, hj, rfl, HE, m, rfl⟩ := hrel
      by_cases hlt : j < n
      · obtain ⟨b, o, x, rfl, _, hcell, HX, _⟩ := h.val hlt
        obtain ⟨b', o', y, rfl, _, hcell', HY, _⟩ := h'.val hlt
        by_cases hxy : x = y
        · subst hxy
          go_wp2
          refine region_two [0, 1, 2, 3, 4, 5, 6, 7, 8] [] (by kernel_rfl) (by kernel_rfl) ?_
          simp only [pick, List.map_cons, List.map_nil, List.getD_cons_zero, List.getD_cons_succ]
          go_wp2
          go_roundw
          case rel => exact ⟨j + 1, by omega, by go_num, by show _ = _; rw [at_take HX.out, at_take HY.out, HE.out], _, rfl⟩
          case measure => simp [intOf]; omega
        · have hb : (x != y) = true := by simp [hxy]
          go_wp2
          refine region_two [0, 1, 2, 3, 4, 5, 6, 7, 8] [] (by kernel_rfl) (by kernel_rfl) ?_
          simp only [pick, List.map_cons, List.map_nil, List.getD_cons_zero, List.getD_cons_succ]
          go_wp2
          go_ret
          refine ⟨ret_bool ?_, _, rfl⟩
          cases r with
          | false => rfl
          | true =>
            have := HR.out.1 rfl
            subst this
            have h1 := HX.out
            rw [HY.out] at h1
            exact absurd (Option.some.inj h1).symm hxy
      · go_wp2
        go_ret
        refine ⟨ret_bool ?_, _, rfl⟩
        have he := HE.out
        rw [List.take_of_length_le (by rw [HL.out]; omega), List.take_of_length_le (by rw [HL'.out]; omega)] at he
        exact (HR.out.2 he).symm
  · have hb : ((n : Int) != (n' : Int)) = true := by simp; omega
    go_enter Tryd.func23, Tryd.ntmps23
    go_wp2
    go_ret
    refine ⟨ret_bool ?_, 0, rfl⟩
    cases r with
    | false => rfl
    | true =>
      have := HR.out.1 rfl
      subst this
      have h1 := HL.out
      rw [HL'.out] at h1
      omega
end Go.Proofs.YtjihopbapnfppaaDoor
