/- A code whose words all stand so many places further on. No statement of the seat is proved here; no condition. -/
import Derived.Test.YtjihopbapnfppaaDoorKeepVmWs
import Derived.Test.YtjihopbapnfppaaDoorVmKeepPure2
set_option linter.unusedSimpArgs false
set_option linter.unusedVariables false
namespace Go.Proofs.YtjihopbapnfppaaDoor
open Go.RowKit Go.Ord Go.Baro

/-- What Moved leaves. -/
def MvPost (l : List Ins) (K : Nat) (w : World) (e : Ending) (w' : World) : Prop := ∃ A' n' c', e = .returned (.slice A' n' c') ∧ RO w' w'.heap.size A' n' (l.map (mvI K)) ∧ n' ≤ 40 ∧ Below w.heap.size w w'
set_option maxRecDepth 100000 in
set_option maxHeartbeats 4000000 in
theorem keep_Moved (l : List Ins) (A : Option Addr) (n c K m : Nat) (w : World) (hb : RO w w.heap.size A n l) (hn : n ≤ 40) (hK : K < 100) (hsh : ∀ o ∈ l, shI m o) :
    Calls Tryd.prog 25 #[.slice A n c, .int .i64 K] w (MvPost l K w) := by
  have HL := Lib.hid hb.len
  have HSH := Lib.hid hsh
  have h0 : Below w.heap.size w w := Below.refl _ _
  clear hsh
  go_enter Tryd.func25, Tryd.ntmps25
  go_wp2
  go_loopw [5, 6] (fun v i wr => ∃ j : Nat, j ≤ n ∧ i = .int .i64 j ∧ wr.ownsRow w.heap.size 37 5 v j (cellsO ((l.take j).map (mvI K))) ∧ Below w.heap.size w wr) (fun _ i _ => n - (intOf i).toNat)
  case atStart => exact ⟨0, Nat.zero_le _, rfl, World.ownsRow_nil _ _ _ _, h0⟩
  case round =>
    obtain ⟨j, hj, rfl, hown, hbel⟩ := hrel
    have hsz := hbel.size
    by_cases hjn : j < n
    · obtain ⟨b, o, k, x, y, z, u, rfl, hbB, d0, d1, d2, d3, d4, HX, hmem⟩ := (hb.below hbel).val hjn
      have hbs : b < wr.heap.size := by omega
      have hshp := HSH.out _ hmem
      have HST := Lib.hid (show ∀ o' : Ins, mvI K ⟨k, x, y, z, u⟩ = o' → (l.take (j + 1)).map (mvI K) = (l.take j).map (mvI K) ++ [o'] from by
        intro o' ho'
        rw [at_take HX.out, List.map_append, ← ho']; rfl)
      clear hmem
      by_cases hk : k = 13 ∨ k = 14 ∨ k = 15
      · have hz : 0 ≤ z ∧ z < 6 := by unfold shI at hshp; dsimp only at hshp; omega
        have HO := Lib.hid (HST.out ⟨k, x, y, z + K, u⟩ (by unfold mvI; dsimp only; rw [if_pos hk]))
        clear HST hshp
        rcases hk with rfl | rfl | rfl
        all_goals
          go_wp2_with (at_builtin; go_must (refine app_lit eltOp _ rfl _ _ rfl w.heap.size _ j _ rfl (by exact hown.alloc _) 1 [.int .i64 _, .int .i64 x, .int .i64 y, .int .i64 (z + K), .int .i64 u] (wr.heap.size + 1) (by simp) rfl rfl (one5 _ _ _ _ _) (by omega) (by omega) (by simp; omega) ?_); intro v3 w3 hown3 hgr3 hbel3 _)
          go_roundw
          case rel =>
            refine ⟨j + 1, by omega, by go_num, ?_, hbel3 _ (hbel.alloc hsz _)⟩
            rw [HO.out, cellsO_append]
            exact hown3
          case measure => simp [intOf]; omega
      · have HO := Lib.hid (HST.out ⟨k, x, y, z, u⟩ (by unfold mvI; dsimp only; rw [if_neg hk]))
        have e13 : (k == 13) = false := by simp; omega
        have e14 : (k == 14) = false := by simp; omega
        have e15 : (k == 15) = false := by simp; omega
        clear HST hshp hk
        go_wp2_with (at_builtin; go_must (refine app_lit eltOp _ rfl _ _ rfl w.heap.size _ j _ rfl (by exact hown.alloc _) 1 [.int .i64 k, .int .i64 x, .int .i64 y, .int .i64 z, .int .i64 u] (wr.heap.size + 1) (by simp) rfl rfl (one5 _ _ _ _ _) (by omega) (by omega) (by simp; omega) ?_); intro v3 w3 hown3 hgr3 hbel3 _)
        go_roundw
        case rel =>
          refine ⟨j + 1, by omega, by go_num, ?_, hbel3 _ (hbel.alloc hsz _)⟩
          rw [HO.out, cellsO_append]
          exact hown3
        case measure => simp [intOf]; omega
    · obtain rfl : j = n := by omega
      obtain ⟨A', c', rfl, hlc⟩ := own_form hown
      go_wp2
      go_ret
      refine ⟨A', j, c', rfl, ?_, hn, hbel⟩
      have := Rd.of_own hown
      rw [List.take_of_length_le (by rw [HL.out]; exact Nat.le_refl _)] at this
      exact this

/-- The words ahead when j of them are laid. -/
def frJ (j K : Nat) : List Int := (List.range j).map (fun (i : Nat) => (i : Int)) ++ List.replicate (K - j) 0
def frL (K : Nat) : List Int := (List.range K).map (fun (i : Nat) => (i : Int))
theorem frJ_end (K : Nat) : frJ K K = frL K := by simp [frJ, frL]
theorem frL_len (K : Nat) : (frL K).length = K := by simp [frL]
theorem frJ_len {j K : Nat} (h : j ≤ K) : (frJ j K).length = K := by simp [frJ]; omega
theorem frJ_step {j K : Nat} (h : j < K) : (frJ j K).set j (j : Int) = frJ (j + 1) K := by
  unfold frJ
  rw [List.set_append_right _ _ (by simp), List.range_succ, List.map_append, List.append_assoc]
  congr 1
  rw [show j - ((List.range j).map (fun (i : Nat) => (i : Int))).length = 0 by simp, show K - j = (K - (j + 1)) + 1 by omega, List.replicate_succ]
  rfl
theorem frL_in {K : Nat} (h : K < 100) : ∀ y ∈ frL K, inW y := by
  intro y hy
  obtain ⟨i, hi, rfl⟩ := List.mem_map.1 hy
  have := List.mem_range.1 hi
  unfold inW; omega
theorem madeK (K : Nat) : (madeCells (Value.int .i64 0).cells (K * 1)).toList = (frJ 0 K).map (Value.int .i64) := by
  rw [madeCells_one _ rfl]; simp [frJ]
end Go.Proofs.YtjihopbapnfppaaDoor
