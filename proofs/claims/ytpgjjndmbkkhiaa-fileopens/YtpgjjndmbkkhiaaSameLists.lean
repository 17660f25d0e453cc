/- Two lists of lists of bytes are compared. No statement of the seat is proved here; no condition. -/
import Derived.Test.YtpgjjndmbkkhiaaSameBytes
import Derived.Test.YtpgjjndmbkkhiaaLibL
set_option linter.unusedSimpArgs false
set_option linter.unusedVariables false
namespace Go.Proofs.Ytpgjjndmbkkhiaa
open Go.RowKit Go.Ord Go.Baro

set_option maxHeartbeats 1000000 in
theorem law_sameLists (ls : List (List Int)) (A A' : Option Addr) (n c n' c' : Nat) (w : World) (B B' : Nat) (h : RL w B A n ls) (h' : RL w B' A' n' ls) (hn : n ≤ 1000) (hk : ∀ l ∈ ls, l.length ≤ 4000) :
    Calls Try.prog 14 #[.slice A n c, .slice A' n' c'] w fun e w' => e = .returned (.bool true) ∧ ∃ m, w' = w.drewN m := by
  obtain rfl : n = n' := by rw [← h.len, h'.len]
  have HK := Lib.hid hk
  clear hk
  go_enter Try.func14, Try.ntmps14
  go_wp2
  go_loopw [5] (fun i wr => ∃ j : Nat, j ≤ n ∧ i = .int .i64 j ∧ ∃ m, wr = w.drewN m) (fun i _ => n - (intOf i).toNat)
  case atStart => exact ⟨0, Nat.zero_le _, rfl, 0, rfl⟩
  case round =>
    obtain ⟨j, hj, rfl, m, rfl⟩ := hrel
    by_cases hlt : j < n
    · obtain ⟨b, o, A1, n1, c1, l1, rfl, _, hcell, _, hr1, HX, hm1⟩ := h.val hlt
      obtain ⟨b', o', A2, n2, c2, l2, rfl, _, hcell', _, hr2, HY, _⟩ := h'.val hlt
      obtain rfl : l1 = l2 := by have := HX.out; rw [HY.out] at this; injection this with this; exact this.symm
      have hl1 := HK.out l1 hm1
      rw [hr1.len] at hl1
      obtain rfl : n1 = n2 := by rw [← hr1.len, hr2.len]
      go_wp2
      refine region_first [0, 1, 2, 3, 4, 5, 6, 7] (.cons 8 (seq [9] .nil)) (by kernel_rfl) (by kernel_rfl) ?_
      simp only [pick, List.map_cons, List.map_nil, List.getD_cons_zero, List.getD_cons_succ]
      go_wp2
      refine ord_call (by kernel_rfl) ?_
      simp only [pick, List.map_cons, List.map_nil, List.getD_cons_zero, List.getD_cons_succ]
      go_wp2_with fail
      refine (law_sameBytes l1 l1 _ _ _ _ _ _ _ _ _ true (by exact hr1.heap rfl) (by exact hr2.heap rfl) (by simp) (by omega) (by omega)).mono ?_
      rintro e w1 ⟨rfl, m1, rfl⟩
      go_wp2
      refine ⟨fun _ _ => rfl, ?_⟩
      refine ord_more [9] .nil (by kernel_rfl) ?_
      simp only [pick, List.map_cons, List.map_nil, List.getD_cons_zero, List.getD_cons_succ]
      go_wp2
      refine ord_done ?_
      go_wp2
      go_roundw
      case rel => exact ⟨j + 1, by omega, by go_num, _, rfl⟩
      case measure => simp [intOf]; omega
    · go_wp2
      go_ret
      exact ⟨by first | rfl | trivial, m, rfl⟩
end Go.Proofs.Ytpgjjndmbkkhiaa
