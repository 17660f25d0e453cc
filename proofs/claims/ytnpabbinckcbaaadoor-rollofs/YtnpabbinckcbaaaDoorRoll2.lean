/- What roll.Of does. No statement of the seat is proved here; no condition. -/
import Derived.Test.YtnpabbinckcbaaaDoorRoll1
import Derived.Test.YtnpabbinckcbaaaDoorChunk2
import Derived.Test.YtnpabbinckcbaaaDoorRollPure2
set_option linter.unusedSimpArgs false
set_option linter.unusedVariables false
namespace Go.Proofs.YtnpabbinckcbaaaDoor
open Go.RowKit Go.Ord Go.Baro

theorem roll_next {l : List (Int × Int)} {j : Nat} {x y : Int} (h : l[j]? = some (x, y)) : rollV ((valS l).take (j + 1)) = mg (rollV ((valS l).take j)) (rl1 y) := by
  rw [at_take (valS_at h), rollV_snoc]

set_option maxHeartbeats 2000000 in
theorem roll_Of (l : List (Int × Int)) (A : Option Addr) (n c : Nat) (r : Rl) (k : Int) (w : World) (hT : Tab w) (hb : RF w w.heap.size A n l) (hn : n ≤ 8796093022208) (hr : r = ofR l) (hk : k = chC l) :
    Calls Tryd.prog 8 #[.slice A n c] w fun e w' => e = .returned (.tuple #[rlV r, .int .i64 k]) ∧ Below w.heap.size w w' := by
  have HL := Lib.hid hb.len
  have HR := Lib.hid hr
  have HK := Lib.hid hk
  clear hr
  have h0 : Below w.heap.size w w := Below.refl _ _
  have lT := hT.lt
  have bA := Box.newAt w 24 (rlC rl0) _ rfl
  have hA := h0.alloc (Nat.le_refl _) (Obj.cells (rlC rl0).toArray 24)
  have hT' := hT.below hA lT
  by_cases hz : chC l = 0
  · have HZ := Lib.hid hz
    have hk0 : k = 0 := by rw [hk]; exact hz
    subst hk0
    clear hk hz
    go_enter Tryd.func8, Tryd.ntmps8
    go_wp2_with fail
    refine (chunk_Encode l _ _ _ _ hT' ((hb.below hA).more (by simp)) hn).mono ?_
    rintro e w1 ⟨v1, rfl, hown1, hb1⟩
    rw [HZ.out]
    have bA1 := bA.below hb1 bA.lt
    have hA1 := hA.trans (hb1.mono hA.size)
    have hs1 := hb1.size
    clear bA hA hT'
    have hne : w.heap.size ≠ w1.heap.size := by have := bA1.lt; omega
    go_wp2
    go_loopw [20] (fun i wr => ∃ (j : Nat) (c lo hi s : Int), j ≤ n ∧ i = .int .i64 j ∧ Hid (rollV ((valS l).take j) = ⟨c, lo, hi, s⟩) ∧ Box wr w.heap.size 24 (rlC rl0) ∧ Box wr w1.heap.size 24 [.int .i64 c, .int .i64 lo, .int .i64 hi, .int .i64 s] ∧ Below w.heap.size w wr) (fun i _ => n - (intOf i).toNat)
    case atStart => exact ⟨0, 0, 0, 0, 0, Nat.zero_le _, rfl, rfl, bA1.alloc _, Box.newAt w1 24 (rlC rl0) _ rfl, hA1.alloc hA1.size _⟩
    case round =>
      obtain ⟨j, c, lo, hi, s, hj, rfl, HV, bC, bD, hbel⟩ := hrel
      have lC := bC.lt
      have lD := bD.lt
      by_cases hlt : j < n
      · obtain ⟨b, o, x, y, rfl, hbb, hcx, hcy, HX, _⟩ := (hb.below hbel).val hlt
        have HN := Lib.hid (roll_next HX.out)
        rw [HV.out] at HN
        have hv1 := valS_roll HZ.out j
        have hv2 := valS_roll HZ.out (j + 1)
        have hm2 : (rollV ((valS l).take (j + 1))).s = s + y := by rw [rollV_s, at_take (valS_at HX.out), List.sum_append, ← rollV_s, HV.out]; simp
        rw [hm2] at hv2
        rw [HV.out] at hv1
        dsimp only at hv1
        have hcb : I64 (c + 1) := by unfold I64; omega
        have hsb : I64 (s + y) := hv2.2.2
        clear hv1 hv2 hm2
        obtain ⟨m, hm⟩ : ∃ m, m = mg ⟨c, lo, hi, s⟩ (rl1 y) := ⟨_, rfl⟩
        rw [← hm] at HN
        have HM := Lib.hid hm
        clear hm
        obtain ⟨mc, ml, mh, mz⟩ := m
        obtain ⟨cD0, cD1, cD2, cD3⟩ := bD.cells4
        obtain ⟨fD0, fD1, fD2, fD3⟩ := bD.frozen4
        go_wp2
        refine region_first [0, 1] (.cons 2 (seq [3, 4] .nil)) (by kernel_rfl) (by kernel_rfl) ?_
        simp only [pick, List.map_cons, List.map_nil, List.getD_cons_zero, List.getD_cons_succ]
        go_wp2
        refine ord_call (by kernel_rfl) ?_
        simp only [pick, List.map_cons, List.map_nil, List.getD_cons_zero, List.getD_cons_succ]
        go_wp2_with fail
        refine (roll_single x y _).mono ?_
        rintro e w3 ⟨rfl, hb3⟩
        have hx3 := ext_below hb3
        replace hb3 : Below (wr.heap.size + 1) (wr.alloc (Obj.cells #[.int .i64 x, .int .i64 y] 39)) w3 := (hb3.mono (by simp)).undrew
        have bD3 : Box w3 w1.heap.size 24 [.int .i64 c, .int .i64 lo, .int .i64 hi, .int .i64 s] := (Box.alloc bD (Obj.cells #[.int .i64 x, .int .i64 y] 39)).below hb3 (by omega)
        have bC3 : Box w3 w.heap.size 24 (rlC rl0) := (Box.alloc bC (Obj.cells #[.int .i64 x, .int .i64 y] 39)).below hb3 (by omega)
        have hbel3 := (hbel.alloc hbel.size (Obj.cells #[.int .i64 x, .int .i64 y] 39)).trans (hb3.mono (by have := hbel.size; omega))
        unfold rlV rl1
        dsimp only
        go_wp2
        refine ord_last [3, 4] (by kernel_rfl) ?_
        simp only [pick, List.map_cons, List.map_nil, List.getD_cons_zero, List.getD_cons_succ]
        go_wp2_with fail
        refine (roll_merge ⟨c, lo, hi, s⟩ (rl1 y) ⟨mc, ml, mh, mz⟩ _ hcb hsb HM.out).mono ?_
        rintro e w4 ⟨rfl, hb4⟩
        have bD4 := bD3.below hb4 bD3.lt
        have bC4 := bC3.below hb4 bC3.lt
        have hbel4 := hbel3.trans (hb4.mono hbel3.size)
        have lD4 := bD4.lt
        clear cD0 cD1 cD2 cD3 fD0 fD1 fD2 fD3
        obtain ⟨cD0, cD1, cD2, cD3⟩ := bD4.cells4
        obtain ⟨fD0, fD1, fD2, fD3⟩ := bD4.frozen4
        unfold rlV
        dsimp only
        go_wp2
        go_roundw
        case rel =>
          refine ⟨j + 1, mc, ml, mh, mz, by omega, by go_num, HN.out, ?_, bD4.four _ _ _ _, below_set4 hbel4 hA1.size _ _ _ _⟩
          exact (((bC4.other 0 _ hne).other 1 _ hne).other 2 _ hne).other 3 _ hne
        case measure => simp [intOf]; omega
      · obtain rfl : j = n := by omega
        have hv := HV.out
        rw [List.take_of_length_le (by rw [valS_len, HL.out]; omega)] at hv
        have HW := Lib.hid hv
        clear hv
        obtain ⟨cD0, cD1, cD2, cD3⟩ := bD.cells4
        obtain ⟨cC0, cC1, cC2, cC3⟩ := bC.cells4
        obtain ⟨fC0, fC1, fC2, fC3⟩ := bC.frozen4
        go_wp2
        refine bodyPost_ret (results_row_tmp rfl _ _ w.heap.size _ _ _ _ rfl (by exact bC.four _ _ _ _) Tryd.underlying24 rfl (by kernel_rfl)) rfl ?_
        refine ⟨?_, below_set4 hbel (Nat.le_refl _) _ _ _ _⟩
        exact ret_two (by rw [HR.out, ofR_ok HZ.out, HW.out]; rfl) rfl
  · have HZ := Lib.hid hz
    have hkb : (k != 0) = true := by rw [hk]; simp [hz]
    clear hk hz
    go_enter Tryd.func8, Tryd.ntmps8
    go_wp2_with fail
    refine (chunk_Encode l _ _ _ _ hT' ((hb.below hA).more (by simp)) hn).mono ?_
    rintro e w1 ⟨v1, rfl, hown1, hb1⟩
    rw [← HK.out]
    have bA1 := bA.below hb1 bA.lt
    have hA1 := hA.trans (hb1.mono hA.size)
    have hs1 := hb1.size
    clear bA hA hT'
    obtain ⟨cC0, cC1, cC2, cC3⟩ := bA1.cells4
    obtain ⟨fC0, fC1, fC2, fC3⟩ := bA1.frozen4
    go_wp2
    refine bodyPost_ret (results_row_tmp rfl _ _ w.heap.size _ _ _ _ rfl (by exact bA1.four _ _ _ _) Tryd.underlying24 rfl (by kernel_rfl)) rfl ?_
    refine ⟨?_, below_set4 hA1 (Nat.le_refl _) _ _ _ _⟩
    exact ret_two (by rw [HR.out, ofR_bad HZ.out]; rfl) rfl
end Go.Proofs.YtnpabbinckcbaaaDoor
