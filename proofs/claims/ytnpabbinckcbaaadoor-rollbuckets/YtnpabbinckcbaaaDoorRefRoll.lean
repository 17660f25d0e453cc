/- What the document's answer to a roll does. No statement of the seat is proved here; no condition. -/
import Derived.Test.YtnpabbinckcbaaaDoorRoll1
set_option linter.unusedSimpArgs false
set_option linter.unusedVariables false
namespace Go.Proofs.YtnpabbinckcbaaaDoor
open Go.RowKit Go.Ord Go.Baro

/-- One more value. -/
theorem roll_more {vs : List Int} {j : Nat} {v : Int} (h : vs[j]? = some v) : rollV (vs.take (j + 1)) = mg (rollV (vs.take j)) (rl1 v) := by
  rw [at_take h, rollV_snoc]
theorem roll_more_pos {vs : List Int} {j : Nat} {v c lo hi s : Int} (h : vs[j]? = some v) (hr : rollV (vs.take j) = ⟨c, lo, hi, s⟩) (hc : c ≠ 0) : rollV (vs.take (j + 1)) = ⟨c + 1, min lo v, max hi v, s + v⟩ := by
  rw [roll_more h, hr, mg_both (by exact hc) (rl1_ne v)]; rfl

set_option maxHeartbeats 1000000 in
theorem ref_rollOf (vs : List Int) (A : Option Addr) (n c : Nat) (w : World) (r : Rl) (hb : RI w w.heap.size .i64 A n vs) (hn : n ≤ 140737488355328) (hsum : ∀ j, j ≤ n → I64 (vs.take j).sum) (hr : r = rollV vs) :
    Calls Tryd.prog 20 #[.slice A n c] w fun e w' => e = .returned (rlV r) ∧ Below w.heap.size w w' := by
  have HL := Lib.hid hb.len
  have HS := Lib.hid hsum
  have HR := Lib.hid hr
  clear hsum hr
  have h0 : Below w.heap.size w w := Below.refl _ _
  go_enter Tryd.func20, Tryd.ntmps20
  go_wp2
  go_loopw [8] (fun i wr => ∃ (j : Nat) (c lo hi s : Int), j ≤ n ∧ i = .int .i64 j ∧ Hid (rollV (vs.take j) = ⟨c, lo, hi, s⟩) ∧ c = j ∧ I64 s ∧ Box wr w.heap.size 24 (rlC rl0) ∧ Box wr (w.heap.size + 1) 24 [.int .i64 c, .int .i64 lo, .int .i64 hi, .int .i64 s] ∧ Below w.heap.size w wr) (fun i _ => n - (intOf i).toNat)
  case atStart => exact ⟨0, 0, 0, 0, 0, Nat.zero_le _, rfl, rfl, rfl, (by unfold I64; decide), (Box.newAt w 24 (rlC rl0) _ rfl).alloc _, Box.newAt (w.alloc _) 24 (rlC rl0) _ (by simp), (h0.alloc (Nat.le_refl _) _).alloc (by simp) _⟩
  case round =>
    obtain ⟨j, c, lo, hi, s, hj, rfl, HV, hcj, hs, bA, bB, hbel⟩ := hrel
    subst hcj
    obtain ⟨cB0, cB1, cB2, cB3⟩ := bB.cells4
    obtain ⟨fB0, fB1, fB2, fB3⟩ := bB.frozen4
    have hlt2 := bB.lt
    by_cases hlt : j < n
    · obtain ⟨b, o, v, rfl, hbb, hcell, HX, _⟩ := (hb.below hbel).val hlt
      have hs1 : I64 (s + v) := by
        have h1 := HS.out (j + 1) (by omega)
        rw [at_take HX.out, List.sum_append, List.sum_cons, List.sum_nil, ← rollV_s, HV.out] at h1
        simpa using h1
      unfold I64 at hs
      by_cases hj0 : j = 0
      · subst hj0
        have H1 := Lib.hid (roll_more HX.out)
        simp only [Nat.add_zero] at hcell
        have hz : lo = 0 ∧ hi = 0 ∧ s = 0 := by
          have := HV.out
          simp [rollV, rl0] at this
          omega
        obtain ⟨rfl, rfl, rfl⟩ := hz
        unfold I64 at hs1
        go_wp2
        go_roundw
        case rel =>
          refine ⟨1, 1, v, v, v, by omega, by go_num, ?_, rfl, by unfold I64; omega, ?_, ?_, ?_⟩
          · show _ = _
            rw [H1.out]; rfl
          · exact (((bA.other 1 _ (by omega)).other 2 _ (by omega)).other 3 _ (by omega)).other 0 _ (by omega)
          · have := (((bB.set 1 (.int .i64 v)).set 2 (.int .i64 v)).set 3 (.int .i64 v)).set 0 (.int .i64 1)
            simpa using this
          · exact (((hbel.setCell (by simp) _).setCell (by simp) _).setCell (by simp) _).setCell (by simp) _
        case measure => simp [intOf]; omega
      · have hb0 : ((j : Int) == 0) = false := by simp; omega
        unfold I64 at hs1
        by_cases ha : v < lo
        · by_cases hb' : hi < v
          · have H1 := Lib.hid (roll_more_pos HX.out HV.out (by omega))
            go_wp2
            go_roundw
            case rel =>
              refine ⟨j + 1, (j : Int) + 1, min lo v, max hi v, s + v, by omega, by go_num, H1.out, by omega, hs1, ?_, ?_, ?_⟩
              · exact (((bA.other 1 _ (by omega)).other 2 _ (by omega)).other 3 _ (by omega)).other 0 _ (by omega)
              · rw [Int.min_eq_right (by omega), Int.max_eq_right (by omega)]
                have := (((bB.set 1 (.int .i64 v)).set 2 (.int .i64 v)).set 3 (.int .i64 (s + v))).set 0 (.int .i64 ((j : Int) + 1))
                simpa using this
              · exact (((hbel.setCell (by simp) _).setCell (by simp) _).setCell (by simp) _).setCell (by simp) _
            case measure => simp [intOf]; omega
          · have H1 := Lib.hid (roll_more_pos HX.out HV.out (by omega))
            go_wp2
            go_roundw
            case rel =>
              refine ⟨j + 1, (j : Int) + 1, min lo v, max hi v, s + v, by omega, by go_num, H1.out, by omega, hs1, ?_, ?_, ?_⟩
              · exact ((bA.other 1 _ (by omega)).other 3 _ (by omega)).other 0 _ (by omega)
              · rw [Int.min_eq_right (by omega), Int.max_eq_left (by omega)]
                have := ((bB.set 1 (.int .i64 v)).set 3 (.int .i64 (s + v))).set 0 (.int .i64 ((j : Int) + 1))
                simpa using this
              · exact ((hbel.setCell (by simp) _).setCell (by simp) _).setCell (by simp) _
            case measure => simp [intOf]; omega
        · by_cases hb' : hi < v
          · have H1 := Lib.hid (roll_more_pos HX.out HV.out (by omega))
            go_wp2
            go_roundw
            case rel =>
              refine ⟨j + 1, (j : Int) + 1, min lo v, max hi v, s + v, by omega, by go_num, H1.out, by omega, hs1, ?_, ?_, ?_⟩
              · exact ((bA.other 2 _ (by omega)).other 3 _ (by omega)).other 0 _ (by omega)
              · rw [Int.min_eq_left (by omega), Int.max_eq_right (by omega)]
                have := ((bB.set 2 (.int .i64 v)).set 3 (.int .i64 (s + v))).set 0 (.int .i64 ((j : Int) + 1))
                simpa using this
              · exact ((hbel.setCell (by simp) _).setCell (by simp) _).setCell (by simp) _
            case measure => simp [intOf]; omega
          · have H1 := Lib.hid (roll_more_pos HX.out HV.out (by omega))
            go_wp2
            go_roundw
            case rel =>
              refine ⟨j + 1, (j : Int) + 1, min lo v, max hi v, s + v, by omega, by go_num, H1.out, by omega, hs1, ?_, ?_, ?_⟩
              · exact (bA.other 3 _ (by omega)).other 0 _ (by omega)
              · rw [Int.min_eq_left (by omega), Int.max_eq_left (by omega)]
                have := (bB.set 3 (.int .i64 (s + v))).set 0 (.int .i64 ((j : Int) + 1))
                simpa using this
              · exact (hbel.setCell (by simp) _).setCell (by simp) _
            case measure => simp [intOf]; omega
    · obtain rfl : j = n := by omega
      obtain ⟨cA0, cA1, cA2, cA3⟩ := bA.cells4
      obtain ⟨fA0, fA1, fA2, fA3⟩ := bA.frozen4
      go_wp2
      refine bodyPost_ret (results_cell_row rfl _ _ w.heap.size _ _ _ _ rfl (by exact bA.four _ _ _ _) Tryd.underlying24 rfl (by kernel_rfl)) rfl ?_
      have hv := HV.out
      rw [List.take_of_length_le (by rw [HL.out]; omega)] at hv
      refine ⟨?_, below_set4 hbel (Nat.le_refl _) _ _ _ _⟩
      rw [HR.out, hv]; rfl
end Go.Proofs.YtnpabbinckcbaaaDoor
