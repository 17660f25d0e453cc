/- What the document's answer to roll.Of does. No statement of the seat is proved here; no condition. -/
import Derived.Test.YtnpabbinckcbaaaDoorRefRoll
import Derived.Test.YtnpabbinckcbaaaDoorRefChunk
import Derived.Test.YtnpabbinckcbaaaDoorRollPure2
import Derived.Test.YtnpabbinckcbaaaDoorBits
set_option linter.unusedSimpArgs false
set_option linter.unusedVariables false
namespace Go.Proofs.YtnpabbinckcbaaaDoor
open Go.RowKit Go.Ord Go.Baro

set_option maxHeartbeats 2000000 in
theorem ref_RollOf (l : List (Int × Int)) (A : Option Addr) (n c : Nat) (r : Rl) (k : Int) (w : World) (hb : RF w w.heap.size A n l) (hn : n ≤ 8796093022208) (hr : r = ofR l) (hk : k = chC l) :
    Calls Tryd.prog 9 #[.slice A n c] w fun e w' => e = .returned (.tuple #[rlV r, .int .i64 k]) ∧ Below w.heap.size w w' := by
  have HL := Lib.hid hb.len
  have HR := Lib.hid hr
  have HK := Lib.hid hk
  clear hr
  have h0 : Below w.heap.size w w := Below.refl _ _
  have bA := Box.newAt w 24 (rlC rl0) _ rfl
  have hA := h0.alloc (Nat.le_refl _) (Obj.cells (rlC rl0).toArray 24)
  by_cases hz : chC l = 0
  · have HZ := Lib.hid hz
    have hk0 : k = 0 := by rw [hk]; exact hz
    subst hk0
    have hn2 : n ≤ 120 := by rw [← HL.out]; exact (chC_zero hz).1
    clear hk hz
    go_enter Tryd.func9, Tryd.ntmps9
    go_wp2_with fail
    refine (ref_SamplesFault l _ _ _ _ ((hb.below hA).more (by simp)) hn).mono ?_
    rintro e w1 ⟨rfl, hb1⟩
    rw [HZ.out]
    have bA1 := bA.below hb1 bA.lt
    have hA1 := hA.trans (hb1.mono hA.size)
    clear bA hA
    go_wp2
    go_loopw [5, 16] (fun v i wr => ∃ (j : Nat), j ≤ n ∧ i = .int .i64 j ∧ wr.ownsRow w.heap.size 3 1 v j (((valS l).take j).map (Value.int .i64)) ∧ Box wr w.heap.size 24 (rlC rl0) ∧ Below w.heap.size w wr) (fun _ i _ => n - (intOf i).toNat)
    case atStart => exact ⟨0, Nat.zero_le _, rfl, World.ownsRow_nil _ _ _ _, bA1, hA1⟩
    case round =>
      obtain ⟨j, hj, rfl, hown, bC, hbel⟩ := hrel
      have lC := bC.lt
      have hsz := hbel.size
      by_cases hlt : j < n
      · obtain ⟨b, o, x, y, rfl, hbb, hcx, hcy, HX, _⟩ := (hb.below hbel).val hlt
        go_wp2_with (at_builtin; go_must (refine app_lit eltInt (wr.alloc _) rfl _ _ rfl w.heap.size _ _ _ rfl (by exact hown.alloc _) 1 [_] (wr.heap.size + 1) (by simp) rfl rfl (one1 _ _) (by omega) (by omega) (by simp; omega) ?_); intro v3 w3 hown3 hgr3 hbel3 _; have bC3 := ((bC.alloc _).alloc _).grown hgr3 (bC.ne hown (by decide)))
        go_roundw
        case rel =>
          refine ⟨j + 1, by omega, by go_num, ?_, bC3, hbel3 _ (hbel.alloc hsz _)⟩
          rw [at_take (valS_at HX.out), List.map_append]
          exact hown3
        case measure => simp [intOf]; omega
      · obtain rfl : j = n := by omega
        rw [List.take_of_length_le (by rw [valS_len, HL.out]; omega)] at hown
        obtain ⟨B, cp, rfl, _⟩ := own_form hown
        have hri : RI wr wr.heap.size .i64 B j (valS l) := Rd.of_own hown
        have hR := HR.out
        rw [ofR_ok HZ.out] at hR
        go_wp2_with fail
        refine (ref_rollOf (valS l) _ _ _ _ r hri (by omega) (fun i _ => valS_sum HZ.out i) hR).mono ?_
        rintro e w3 ⟨rfl, hb3⟩
        have bC3 := bC.below hb3 bC.lt
        have hbel3 := hbel.trans (hb3.mono hsz)
        have lC3 := bC3.lt
        obtain ⟨cC0, cC1, cC2, cC3⟩ := bC3.cells4
        obtain ⟨fC0, fC1, fC2, fC3⟩ := bC3.frozen4
        clear hR HR
        obtain ⟨rc, rlo, rhi, rs⟩ := r
        unfold rlV
        dsimp only
        go_wp2
        refine bodyPost_ret (results_row_tmp rfl _ _ w.heap.size _ _ _ _ rfl (by exact bC3.four _ _ _ _) Tryd.underlying24 rfl (by kernel_rfl)) rfl ?_
        exact ⟨rfl, below_set4 hbel3 (Nat.le_refl _) _ _ _ _⟩
  · have HZ := Lib.hid hz
    have hkb : (k != 0) = true := by rw [hk]; simp [hz]
    clear hk hz
    go_enter Tryd.func9, Tryd.ntmps9
    go_wp2_with fail
    refine (ref_SamplesFault l _ _ _ _ ((hb.below hA).more (by simp)) hn).mono ?_
    rintro e w1 ⟨rfl, hb1⟩
    rw [← HK.out]
    have bA1 := bA.below hb1 bA.lt
    have hA1 := hA.trans (hb1.mono hA.size)
    have hs1 := hb1.size
    clear bA hA
    obtain ⟨cC0, cC1, cC2, cC3⟩ := bA1.cells4
    obtain ⟨fC0, fC1, fC2, fC3⟩ := bA1.frozen4
    go_wp2
    refine bodyPost_ret (results_row_tmp rfl _ _ w.heap.size _ _ _ _ rfl (by exact bA1.four _ _ _ _) Tryd.underlying24 rfl (by kernel_rfl)) rfl ?_
    refine ⟨?_, below_set4 hA1 (Nat.le_refl _) _ _ _ _⟩
    exact ret_two (by rw [HR.out, ofR_bad HZ.out]; rfl) rfl
end Go.Proofs.YtnpabbinckcbaaaDoor
