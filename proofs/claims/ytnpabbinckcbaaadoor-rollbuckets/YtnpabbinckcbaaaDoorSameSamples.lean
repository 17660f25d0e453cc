/- Two lists of samples are compared. No statement of the seat is proved here; no condition. -/
import Derived.Test.YtnpabbinckcbaaaDoorRows
import Derived.Test.YtnpabbinckcbaaaDoorLib
set_option linter.unusedSimpArgs false
set_option linter.unusedVariables false
namespace Go.Proofs.YtnpabbinckcbaaaDoor
open Go.RowKit Go.Ord Go.Baro

set_option maxHeartbeats 1000000 in
theorem law_sameSamples (xs ys : List (Int × Int)) (A A' : Option Addr) (n c n' c' : Nat) (w : World) (B B' : Nat) (r : Bool) (h : RF w B A n xs) (h' : RF w B' A' n' ys) (hr : r = true ↔ xs = ys) (hn : n ≤ 8796093022208) (hn' : n' ≤ 8796093022208) :
    Calls Tryd.prog 12 #[.slice A n c, .slice A' n' c'] w fun e w' => e = .returned (.bool r) ∧ ∃ m, w' = w.drewN m := by
  have HL := Lib.hid h.len
  have HL' := Lib.hid h'.len
  have HR := Lib.hid hr
  clear hr
  by_cases hne : n = n'
  · subst hne
    go_enter Tryd.func12, Tryd.ntmps12
    go_wp2
    go_loopw [5] (fun i wr => ∃ j : Nat, j ≤ n ∧ i = .int .i64 j ∧ Hid (xs.take j = ys.take j) ∧ ∃ m, wr = w.drewN m) (fun i _ => n - (intOf i).toNat)
    case atStart => exact ⟨0, Nat.zero_le _, rfl, rfl, 0, rfl⟩
    case round =>
      obtain ⟨j, hj, rfl, HE, m, rfl⟩ := hrel
      by_cases hlt : j < n
      · obtain ⟨b, o, x, x2, rfl, _, hcell, hcell2, HX, _⟩ := h.val hlt
        obtain ⟨b', o', y, y2, rfl, _, hcell', hcell2', HY, _⟩ := h'.val hlt
        by_cases hxy : x = y
        · subst hxy
          by_cases hxy : x2 = y2
          · subst hxy
            go_wp2
            refine region_two [0, 1, 2, 3, 4, 5, 6, 7] [8] (by kernel_rfl) (by kernel_rfl) ?_
            simp only [pick, List.map_cons, List.map_nil, List.getD_cons_zero, List.getD_cons_succ]
            go_wp2
            go_roundw
            case rel => exact ⟨j + 1, by omega, by go_num, by show _ = _; rw [at_take HX.out, at_take HY.out, HE.out], _, rfl⟩
            case measure => simp [intOf]; omega
          · have HN := Lib.hid hxy
            go_wp2
            refine region_two [0, 1, 2, 3, 4, 5, 6, 7] [8] (by kernel_rfl) (by kernel_rfl) ?_
            simp only [pick, List.map_cons, List.map_nil, List.getD_cons_zero, List.getD_cons_succ]
            go_wp2
            go_ret
            refine ⟨ret_bool ?_, _, rfl⟩
            cases r with
            | false => rfl
            | true =>
              have := HR.out.1 rfl
              subst this
              have h1 := HX.out
              rw [HY.out] at h1
              have h2 := Option.some.inj h1
              simp only [Prod.mk.injEq] at h2
              exact absurd h2.2.symm HN.out
        · have HN := Lib.hid hxy
          go_wp2
          refine region_two [0, 1, 2, 3, 4, 5, 6, 7] [8] (by kernel_rfl) (by kernel_rfl) ?_
          simp only [pick, List.map_cons, List.map_nil, List.getD_cons_zero, List.getD_cons_succ]
          go_wp2
          go_ret
          refine ⟨ret_bool ?_, _, rfl⟩
          cases r with
          | false => rfl
          | true =>
            have := HR.out.1 rfl
            subst this
            have h1 := HX.out
            rw [HY.out] at h1
            have h2 := Option.some.inj h1
            simp only [Prod.mk.injEq] at h2
            exact absurd h2.1.symm HN.out
      · go_wp2
        go_ret
        refine ⟨ret_bool ?_, _, rfl⟩
        have he := HE.out
        rw [List.take_of_length_le (by rw [HL.out]; omega), List.take_of_length_le (by rw [HL'.out]; omega)] at he
        exact (HR.out.2 he).symm
  · have hb : ((n : Int) != (n' : Int)) = true := by simp; omega
    go_enter Tryd.func12, Tryd.ntmps12
    go_wp2
    go_ret
    refine ⟨ret_bool ?_, 0, rfl⟩
    cases r with
    | false => rfl
    | true =>
      have := HR.out.1 rfl
      subst this
      have h1 := HL.out
      rw [HL'.out] at h1
      omega
end Go.Proofs.YtnpabbinckcbaaaDoor
