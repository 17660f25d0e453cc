/- What the document's answer to lin.May does. No statement of the seat is proved here; no condition. -/
import Derived.Test.YtdoniefhmmodbaaLinSpec
set_option linter.unusedSimpArgs false
set_option linter.unusedVariables false
namespace Go.Proofs.Ytdoniefhmmodbaa
open Go.RowKit Go.Ord Go.Baro

set_option maxRecDepth 100000 in
set_option maxHeartbeats 2000000 in
theorem ref_HistoryMay (w : World) (A : Option Addr) (n c B : Nat) (l : List Ac) (k : Int) (r : Bool) (h : RA w B A n l) (hB : B ≤ w.heap.size) (hn : n ≤ 9223372036854775807) (hr : r = true ↔ okL k l) :
    Calls Try.prog 11 #[.int .i64 k, .slice A n c] w fun e w' => e = .returned (.bool r) ∧ Below w.heap.size w w' := by
  have h0 := Below.refl w.heap.size w
  have HR := Lib.hid hr
  have HL := Lib.hid h.len
  clear hr
  by_cases k1 : k < 1
  · have hv : r = false := by
      cases r with
      | false => rfl
      | true => have := (HR.out.1 rfl).1; omega
    go_enter Try.func11, Try.ntmps11
    go_wp2
    go_ret
    exact ⟨by first | rfl | exact ret_bool hv.symm, h0⟩
  by_cases k4 : 4 < k
  · have hv : r = false := by
      cases r with
      | false => rfl
      | true => have := (HR.out.1 rfl).1; omega
    go_enter Try.func11, Try.ntmps11
    go_wp2
    go_ret
    exact ⟨by first | rfl | exact ret_bool hv.symm, h0⟩
  by_cases n9 : 9 < n
  · have hv : r = false := by
      cases r with
      | false => rfl
      | true => have := (HR.out.1 rfl).2.1; rw [HL.out] at this; omega
    go_enter Try.func11, Try.ntmps11
    go_wp2
    go_ret
    exact ⟨by first | rfl | exact ret_bool hv.symm, h0⟩
  --- the loop
  go_enter Try.func11, Try.ntmps11
  go_wp2
  go_loopw [20] (fun i wr => ∃ j : Nat, j ≤ n ∧ i = .int .i64 j ∧ Hid (∀ a ∈ l.take j, okA k a) ∧ Below w.heap.size w wr) (fun i _ => n - (intOf i).toNat)
  case atStart => exact ⟨0, Nat.zero_le _, rfl, by intro c h; simp at h, h0⟩
  case round =>
    obtain ⟨j, hj, rfl, HC, hbel⟩ := hrel
    have hsz := hbel.size
    by_cases hjm : j < n
    · obtain ⟨b, o, x, rfl, hbB, d0, d1, d2, d3, d4, HX, hmem⟩ := (h.below (hbel.mono hB)).val hjm
      obtain ⟨xb, xe, xp, xv, xa⟩ := x
      dsimp only at d0 d1 d2 d3 d4
      have lb : b < wr.heap.size := by omega
      have HB : Hid (¬ okA k ⟨xb, xe, xp, xv, xa⟩ → r = false) := fun hb => by
        cases r with
        | false => rfl
        | true => exact absurd ((HR.out.1 rfl).2.2 _ hmem) hb
      have hba := hbel.alloc hsz (Obj.cells #[.int .i64 xb, .int .i64 xe, .bool xp, .int .i64 xv, .int .i64 xa] 34)
      clear hmem
      by_cases c1 : xb < 0
      · skip
        go_wp2
        go_ret
        exact ⟨by first | rfl | exact ret_bool (HB.out (fun hk => by unfold okA at hk; dsimp only at hk; omega)).symm, hba⟩
      by_cases c2 : 1048576 < xb
      · skip
        go_wp2
        go_ret
        exact ⟨by first | rfl | exact ret_bool (HB.out (fun hk => by unfold okA at hk; dsimp only at hk; omega)).symm, hba⟩
      by_cases c3 : 1048576 < xe
      · skip
        go_wp2
        go_ret
        exact ⟨by first | rfl | exact ret_bool (HB.out (fun hk => by unfold okA at hk; dsimp only at hk; omega)).symm, hba⟩
      rcases (by omega : xb ≤ xe ∨ xe = -1 ∨ (xe < xb ∧ xe ≠ -1)) with c4 | c4 | ⟨c4, c5⟩
      · skip
        by_cases a0 : xa = 0
        · subst a0
          by_cases k3 : k < 3
          · skip
            go_wp2
            go_roundw
            case rel =>
              refine ⟨j + 1, by omega, by go_num, ?_, hba⟩
              intro d hd
              rw [at_take HX.out] at hd
              rcases List.mem_append.1 hd with hd | hd
              · exact HC.out d hd
              · rw [List.mem_singleton.1 hd]; unfold okA; dsimp only; refine ⟨by omega, by omega, by omega, ?_, ?_⟩ <;> first | (left; first | rfl | omega) | (right; first | exact ⟨rfl, rfl⟩ | exact ⟨by omega, fun h => by first | rfl | omega⟩)
            case measure => simp [intOf]; omega
          rcases (by omega : xv < -1 ∨ xv = -1 ∨ -1 < xv) with v1 | v1 | v1
          · skip
            go_wp2
            go_ret
            exact ⟨by first | rfl | exact ret_bool (HB.out (fun hk => by unfold okA at hk; dsimp only at hk; omega)).symm, hba⟩
          · subst v1
            cases xp with
            | true =>
              go_wp2
              go_ret
              exact ⟨by first | rfl | exact ret_bool (HB.out (fun hk => by unfold okA at hk; dsimp only at hk; rcases hk.2.2.2.2 with h | h; omega; have := h.2 rfl; cases this)).symm, hba⟩
            | false =>
              go_wp2
              go_roundw
              case rel =>
                refine ⟨j + 1, by omega, by go_num, ?_, hba⟩
                intro d hd
                rw [at_take HX.out] at hd
                rcases List.mem_append.1 hd with hd | hd
                · exact HC.out d hd
                · rw [List.mem_singleton.1 hd]; unfold okA; dsimp only; refine ⟨by omega, by omega, by omega, ?_, ?_⟩ <;> first | (left; first | rfl | omega) | (right; first | exact ⟨rfl, rfl⟩ | exact ⟨by omega, fun h => by first | rfl | omega⟩)
              case measure => simp [intOf]; omega
          · have v2 : (xv == -1) = false := by simp; omega
            go_wp2
            go_roundw
            case rel =>
              refine ⟨j + 1, by omega, by go_num, ?_, hba⟩
              intro d hd
              rw [at_take HX.out] at hd
              rcases List.mem_append.1 hd with hd | hd
              · exact HC.out d hd
              · rw [List.mem_singleton.1 hd]; unfold okA; dsimp only; refine ⟨by omega, by omega, by omega, ?_, ?_⟩ <;> first | (left; first | rfl | omega) | (right; first | exact ⟨rfl, rfl⟩ | exact ⟨by omega, fun h => by first | rfl | omega⟩)
            case measure => simp [intOf]; omega
        · have a1 : (xa != 0) = true := by simp [a0]
          by_cases k2 : k = 2
          · subst k2
            cases xp with
            | true =>
              go_wp2
              go_roundw
              case rel =>
                refine ⟨j + 1, by omega, by go_num, ?_, hba⟩
                intro d hd
                rw [at_take HX.out] at hd
                rcases List.mem_append.1 hd with hd | hd
                · exact HC.out d hd
                · rw [List.mem_singleton.1 hd]; unfold okA; dsimp only; refine ⟨by omega, by omega, by omega, ?_, ?_⟩ <;> first | (left; first | rfl | omega) | (right; first | exact ⟨rfl, rfl⟩ | exact ⟨by omega, fun h => by first | rfl | omega⟩)
              case measure => simp [intOf]; omega
            | false =>
              go_wp2
              go_ret
              exact ⟨by first | rfl | exact ret_bool (HB.out (fun hk => by unfold okA at hk; dsimp only at hk; rcases hk.2.2.2.1 with h | h; exact a0 h; cases h.2)).symm, hba⟩
          · have k2' : (k == 2) = false := by simp [k2]
            go_wp2
            go_ret
            exact ⟨by first | rfl | exact ret_bool (HB.out (fun hk => by unfold okA at hk; dsimp only at hk; rcases hk.2.2.2.1 with h | h; exact a0 h; exact k2 h.1)).symm, hba⟩
      · subst c4
        by_cases a0 : xa = 0
        · subst a0
          by_cases k3 : k < 3
          · skip
            go_wp2
            go_roundw
            case rel =>
              refine ⟨j + 1, by omega, by go_num, ?_, hba⟩
              intro d hd
              rw [at_take HX.out] at hd
              rcases List.mem_append.1 hd with hd | hd
              · exact HC.out d hd
              · rw [List.mem_singleton.1 hd]; unfold okA; dsimp only; refine ⟨by omega, by omega, by omega, ?_, ?_⟩ <;> first | (left; first | rfl | omega) | (right; first | exact ⟨rfl, rfl⟩ | exact ⟨by omega, fun h => by first | rfl | omega⟩)
            case measure => simp [intOf]; omega
          rcases (by omega : xv < -1 ∨ xv = -1 ∨ -1 < xv) with v1 | v1 | v1
          · skip
            go_wp2
            go_ret
            exact ⟨by first | rfl | exact ret_bool (HB.out (fun hk => by unfold okA at hk; dsimp only at hk; omega)).symm, hba⟩
          · subst v1
            cases xp with
            | true =>
              go_wp2
              go_ret
              exact ⟨by first | rfl | exact ret_bool (HB.out (fun hk => by unfold okA at hk; dsimp only at hk; rcases hk.2.2.2.2 with h | h; omega; have := h.2 rfl; cases this)).symm, hba⟩
            | false =>
              go_wp2
              go_roundw
              case rel =>
                refine ⟨j + 1, by omega, by go_num, ?_, hba⟩
                intro d hd
                rw [at_take HX.out] at hd
                rcases List.mem_append.1 hd with hd | hd
                · exact HC.out d hd
                · rw [List.mem_singleton.1 hd]; unfold okA; dsimp only; refine ⟨by omega, by omega, by omega, ?_, ?_⟩ <;> first | (left; first | rfl | omega) | (right; first | exact ⟨rfl, rfl⟩ | exact ⟨by omega, fun h => by first | rfl | omega⟩)
              case measure => simp [intOf]; omega
          · have v2 : (xv == -1) = false := by simp; omega
            go_wp2
            go_roundw
            case rel =>
              refine ⟨j + 1, by omega, by go_num, ?_, hba⟩
              intro d hd
              rw [at_take HX.out] at hd
              rcases List.mem_append.1 hd with hd | hd
              · exact HC.out d hd
              · rw [List.mem_singleton.1 hd]; unfold okA; dsimp only; refine ⟨by omega, by omega, by omega, ?_, ?_⟩ <;> first | (left; first | rfl | omega) | (right; first | exact ⟨rfl, rfl⟩ | exact ⟨by omega, fun h => by first | rfl | omega⟩)
            case measure => simp [intOf]; omega
        · have a1 : (xa != 0) = true := by simp [a0]
          by_cases k2 : k = 2
          · subst k2
            cases xp with
            | true =>
              go_wp2
              go_roundw
              case rel =>
                refine ⟨j + 1, by omega, by go_num, ?_, hba⟩
                intro d hd
                rw [at_take HX.out] at hd
                rcases List.mem_append.1 hd with hd | hd
                · exact HC.out d hd
                · rw [List.mem_singleton.1 hd]; unfold okA; dsimp only; refine ⟨by omega, by omega, by omega, ?_, ?_⟩ <;> first | (left; first | rfl | omega) | (right; first | exact ⟨rfl, rfl⟩ | exact ⟨by omega, fun h => by first | rfl | omega⟩)
              case measure => simp [intOf]; omega
            | false =>
              go_wp2
              go_ret
              exact ⟨by first | rfl | exact ret_bool (HB.out (fun hk => by unfold okA at hk; dsimp only at hk; rcases hk.2.2.2.1 with h | h; exact a0 h; cases h.2)).symm, hba⟩
          · have k2' : (k == 2) = false := by simp [k2]
            go_wp2
            go_ret
            exact ⟨by first | rfl | exact ret_bool (HB.out (fun hk => by unfold okA at hk; dsimp only at hk; rcases hk.2.2.2.1 with h | h; exact a0 h; exact k2 h.1)).symm, hba⟩
      · have c6 : (xe != -1) = true := by simp [c5]
        go_wp2
        go_ret
        exact ⟨by first | rfl | exact ret_bool (HB.out (fun hk => by unfold okA at hk; dsimp only at hk; omega)).symm, hba⟩
    · obtain rfl : n = j := by omega
      have HC2 := HC.out
      rw [List.take_of_length_le (by rw [HL.out]; omega)] at HC2
      have HC := Lib.hid HC2
      clear HC2
      go_wp2
      go_ret
      exact ⟨ret_bool (HR.out.2 ⟨by omega, by rw [HL.out]; omega, HC.out⟩).symm, hbel⟩
end Go.Proofs.Ytdoniefhmmodbaa
