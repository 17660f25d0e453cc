/- What the functions of package bits do. No statement of the seat is proved here; no condition. -/
import Derived.Test.YtekojlepmfmmpaaDoorRows
import Derived.Test.YtekojlepmfmmpaaDoorLib
import Derived.Test.YtekojlepmfmmpaaDoorBitsPure
set_option linter.unusedSimpArgs false
set_option linter.unusedVariables false
namespace Go.Proofs.YtekojlepmfmmpaaDoor
open Go.RowKit Go.Ord Go.Baro

theorem bits_shiftOf (a : Int) (w : World) (h0 : 0 ≤ a) :
    Calls Tryd.prog 53 #[.int .i64 a] w fun e w' => e = .returned (.int .i64 (7 - a % 8)) ∧ w = w' := by
  go_enter Tryd.func53, Tryd.ntmps53
  go_wp2
  go_ret
  exact ⟨rfl, rfl⟩

theorem bits_isWidth (a : Int) (r : Bool) (w : World) (hr : r = true ↔ 0 ≤ a ∧ a ≤ 60) :
    Calls Tryd.prog 51 #[.int .i64 a] w fun e w' => e = .returned (.bool r) ∧ w = w' := by
  have H := Lib.hid hr
  clear hr
  by_cases h : 0 ≤ a
  · go_enter Tryd.func51, Tryd.ntmps51
    go_wp2
    go_ret
    refine ⟨ret_bool ?_, rfl⟩
    have := H.out
    cases r <;> simp at this ⊢ <;> omega
  · go_enter Tryd.func51, Tryd.ntmps51
    go_wp2
    go_ret
    refine ⟨ret_bool ?_, rfl⟩
    have := H.out
    cases r <;> simp at this ⊢ <;> omega

set_option maxHeartbeats 1000000 in
theorem bits_takeField (l : List Int) (A : Option Addr) (n c : Nat) (a' k' : Int) (w : World) (B : Nat) (hb : RI w B .u8 A n l)
    (hr : ∀ x ∈ l, 0 ≤ x ∧ x < 256) (hn : n ≤ 140737488355328) (ha0 : 0 ≤ a') (hk0 : 0 ≤ k') (hk' : k' ≤ 60) (hak' : a' + k' ≤ 8 * n) :
    Calls Tryd.prog 59 #[.slice A n c, .int .i64 a', .int .i64 k'] w fun e w' => e = .returned (.int .i64 (fldOf l a'.toNat k'.toNat)) ∧ ∃ m, w' = w.drewN m := by
  obtain ⟨a, rfl⟩ := Int.eq_ofNat_of_zero_le ha0
  obtain ⟨k, rfl⟩ := Int.eq_ofNat_of_zero_le hk0
  simp only [Int.toNat_natCast]
  have hk : k ≤ 60 := by omega
  have hak : a + k ≤ 8 * n := by omega
  clear hk' hak' ha0 hk0
  go_enter Tryd.func59, Tryd.ntmps59
  go_wp2
  go_loopw [7, 8] (fun v i w' => ∃ j : Nat, j ≤ k ∧ i = .int .i64 ↑(a + j) ∧ v = .int .i64 (fldOf l a j) ∧ ∃ m, w' = w.drewN m) (fun _ i _ => a + k - (intOf i).toNat)
  case atStart => exact ⟨0, Nat.zero_le _, by simp, rfl, 0, rfl⟩
  case round =>
    obtain ⟨j, hj, rfl, rfl, m, rfl⟩ := hrel
    have hbd := fldOf_bd l a j
    have hp := pow_le (j := j) (k := 60) (by omega)
    by_cases hlt : j < k
    · have hp := pow_le (j := j) (k := 59) (by omega)
      have hix : (a + j) / 8 < n := by omega
      obtain ⟨b, o, rfl, _, hcell⟩ := hb.get hix
      have hx : 0 ≤ l[(a + j) / 8]?.getD 0 ∧ l[(a + j) / 8]?.getD 0 < 256 := by
        have : (a + j) / 8 < l.length := by rw [hb.len]; exact hix
        rw [List.getElem?_eq_getElem this]; exact hr _ (List.getElem_mem this)
      have HR := Lib.hid (fld_round l a j (by omega) hx.1 hx.2)
      go_wp2
      refine region_first [0, 1, 2, 3, 4, 5] (.cons 6 (seq [7, 8, 9] .nil)) (by kernel_rfl) (by kernel_rfl) ?_
      simp only [pick, List.map_cons, List.map_nil, List.getD_cons_zero, List.getD_cons_succ]
      go_wp2
      refine ord_call (by kernel_rfl) ?_
      simp only [pick, List.map_cons, List.map_nil, List.getD_cons_zero, List.getD_cons_succ]
      go_wp2_with (go_at_call 53; refine (bits_shiftOf _ _ (by omega)).mono ?_; rintro e w' ⟨rfl, rfl⟩)
      refine ord_more [7, 8, 9] .nil (by kernel_rfl) ?_
      simp only [pick, List.map_cons, List.map_nil, List.getD_cons_zero, List.getD_cons_succ]
      go_wp2
      refine ord_done ?_
      go_wp2
      go_roundw
      case rel => exact ⟨j + 1, by omega, by go_num, val_int HR.out, m + 1, rfl⟩
      case measure => simp [intOf]; omega
    · go_wp2
      go_ret
      obtain rfl : j = k := by omega
      exact ⟨rfl, m, rfl⟩

set_option maxHeartbeats 1000000 in
theorem bits_checkWidths (ws : List Int) (A : Option Addr) (n c : Nat) (left : Int) (w : World) (B : Nat) (hb : RI w B .i64 A n ws) (h0 : 0 ≤ left) (h1 : left ≤ 4611686018427387904) (hn : n ≤ 140737488355328) :
    Calls Tryd.prog 58 #[.int .i64 left, .slice A n c] w fun e w' => e = .returned (.int .i64 (ckAll left ws)) ∧ w = w' := by
  have hlen := hb.len
  by_cases hbig : 400 < n
  · have H := Lib.hid hlen
    clear hlen
    go_enter Tryd.func58, Tryd.ntmps58
    go_wp2
    go_ret
    exact ⟨ret_int (ckAll_big (by rw [H.out]; exact hbig)).symm, rfl⟩
  · have H := Lib.hid hlen
    clear hlen
    go_enter Tryd.func58, Tryd.ntmps58
    go_wp2
    go_loop [0, 12] (fun f i => ∃ (j : Nat) (r : Int), j ≤ n ∧ i = .int .i64 j ∧ f = .int .i64 r ∧ 0 ≤ r ∧ r ≤ left ∧ Hid (ckW left ws = ckW r (ws.drop j))) (fun _ i => n - (intOf i).toNat)
    case atStart => exact ⟨0, left, Nat.zero_le _, rfl, rfl, h0, Int.le_refl _, by simp [Hid]⟩
    case round =>
      obtain ⟨j, r, hj, rfl, rfl, hr0, hr1, HC⟩ := hrel
      by_cases hlt : j < n
      · obtain ⟨b, o, x, rfl, _, hcell, HX, _⟩ := hb.val hlt
        by_cases hx : 0 ≤ x ∧ x ≤ 60
        · by_cases hl : r < x
          · go_wp2_with (go_at_call 51; refine (bits_isWidth _ true _ (by simp; omega)).mono ?_; rintro e w' ⟨rfl, rfl⟩)
            go_ret
            refine ⟨ret_int ?_, rfl⟩
            rw [ckAll_not (by rw [H.out]; omega), HC.out, at_drop HX.out]
            simp only [ckW]
            rw [if_pos hx, if_pos hl]
          · go_wp2_with (go_at_call 51; refine (bits_isWidth _ true _ (by simp; omega)).mono ?_; rintro e w' ⟨rfl, rfl⟩)
            go_round
            case rel =>
              refine ⟨j + 1, r - x, by omega, by go_num, rfl, by omega, by omega, ?_⟩
              show _ = _
              rw [HC.out, at_drop HX.out, ckW_step _ _ _ (by omega) (by omega) (by omega)]
            case measure => simp [intOf]; omega
        · go_wp2_with (go_at_call 51; refine (bits_isWidth _ false _ (by simp; omega)).mono ?_; rintro e w' ⟨rfl, rfl⟩)
          go_ret
          refine ⟨ret_int ?_, rfl⟩
          rw [ckAll_not (by rw [H.out]; omega), HC.out, at_drop HX.out]
          simp only [ckW]
          rw [if_neg hx]
      · go_wp2
        go_ret
        refine ⟨ret_int ?_, rfl⟩
        rw [ckAll_not (by rw [H.out]; omega), HC.out, List.drop_eq_nil_of_le (by rw [H.out]; omega)]
        rfl

theorem eltInt : Elt Tryd.prog 44 3 (.int .i64 0) 1 8 := Elt.mk' Tryd.underlying44 (by kernel_rfl) rfl (by decide)
theorem eltByte : Elt Tryd.prog 23 5 (.int .u8 0) 1 1 := Elt.mk' Tryd.underlying23 (by kernel_rfl) rfl (by decide)

/-- What Read leaves. -/
def ReadPost (l ws : List Int) (w : World) (e : Ending) (w' : World) : Prop :=
  ∃ v, e = .returned (.tuple #[v, .int .i64 (rdSum l ws), .int .i64 (rdCode l.length ws)]) ∧
    w'.ownsRow w.heap.size 3 1 v (rdVals l ws).length ((rdVals l ws).map (Value.int .i64)) ∧ Below w.heap.size w w'

theorem made_ints (n : Nat) : (madeCells (Value.int .i64 0).cells (n * 1)).toList = (fillTo [] n).map (Value.int .i64) := by
  rw [madeCells_one _ rfl]; simp [fillTo]

set_option maxHeartbeats 1000000 in
theorem bits_Read (l ws : List Int) (A A' : Option Addr) (n c n' c' : Nat) (w : World) (hb : RI w w.heap.size .u8 A n l) (hw : RI w w.heap.size .i64 A' n' ws)
    (hr : ∀ x ∈ l, 0 ≤ x ∧ x < 256) (hn : n ≤ 140737488355328) (hn' : n' ≤ 140737488355328) :
    Calls Tryd.prog 57 #[.slice A n c, .slice A' n' c'] w (ReadPost l ws w) := by
  have HL := Lib.hid hb.len
  have HL' := Lib.hid hw.len
  by_cases hc : ckAll (n * 8) ws = 0
  · have hsm : n' ≤ 400 := by
      rcases Nat.lt_or_ge 400 n' with h | h
      · rw [ckAll_big (by rw [HL'.out]; exact h)] at hc; omega
      · exact h
    have HC := Lib.hid hc
    have HZ := Lib.hid (ckW_zero ws (n * 8) (by omega) (by rw [ckAll_not (by rw [HL'.out]; omega)] at hc; exact hc))
    have hcn : (ckAll (n * 8) ws != 0) = false := by simp [hc]
    clear hc
    go_enter Tryd.func57, Tryd.ntmps57
    go_wp2_with (first
      | (go_at_call 58; refine (bits_checkWidths ws _ _ _ _ _ _ hw (by omega) (by omega) (by omega)).mono ?_; rintro e w' ⟨rfl, rfl⟩)
      | (at_make; refine make_all eltInt _ rfl _ _ rfl w.heap.size _ _ _ _ n' rfl rfl rfl rfl (by omega) (by omega) (Nat.le_refl _) ?_; intro w1 hown hbel1 _ _))
    rw [made_ints] at hown
    have hbel0 : Below w.heap.size w w1 := hbel1 w (Below.refl _ _)
    clear hbel1
    go_wp2
    go_loopw [9, 25] (fun s i wr => ∃ j : Nat, j ≤ n' ∧ i = .int .i64 j ∧ s = .int .i64 ↑(sumN (ws.take j)) ∧
        wr.ownsRow w.heap.size 3 1 (.slice (some ⟨w.heap.size, 0, none⟩) n' n') n' ((fillTo (valsOf l 0 (ws.take j)) n').map (Value.int .i64)) ∧ Below w.heap.size w wr) (fun _ i _ => n' - (intOf i).toNat)
    case atStart => exact ⟨0, Nat.zero_le _, rfl, rfl, hown, hbel0⟩
    case round =>
      obtain ⟨j, hj, rfl, rfl, hown', hbel⟩ := hrel
      clear hown hbel0
      by_cases hlt : j < n'
      · obtain ⟨b, o, x, rfl, _, hcell, HX, hmem⟩ := (hw.below hbel).val hlt
        have hx := HZ.out.1 x hmem
        have hs2 : (sumN (ws.take j) : Int) + x ≤ 8 * n := by
          have h1 := sumN_take_le ws (j + 1)
          rw [at_take HX.out, sumN_append] at h1
          have h2 := HZ.out.2
          simp only [sumN, List.map_cons, List.map_nil, List.sum_cons, List.sum_nil] at h1 h2 ⊢
          omega
        have hcv := hown'.cellAt j (by omega)
        have hfz := hown'.frozenAt j
        rw [List.getElem?_eq_getElem (by simp [fillTo, valsOf_length]; have := HL'.out; omega)] at hcv
        go_wp2_with (go_at_call 59; refine (bits_takeField l _ _ _ _ _ _ _ (hb.below hbel) hr (by omega) (by omega) (by omega) (by omega) (by omega)).mono ?_; rintro e w' ⟨rfl, m, rfl⟩)
        go_roundw
        case rel =>
          have ht := at_take HX.out
          have hlen : (valsOf l 0 (ws.take j)).length = j := by rw [valsOf_length, List.length_take, HL'.out]; omega
          have hst := World.ownsRow.stored (w := wr.drewN m) hown' j (Value.int .i64 (fldOf l (sumN (ws.take j)) x.toNat))
          refine ⟨j + 1, by omega, by go_num, val_int (sumN_snoc ws j x ht hx.1).symm, ?_, (hbel.drewN m).setCell (Nat.le_refl _) _⟩
          have hset := fill_set (valsOf l 0 (ws.take j)) n' (fldOf l (sumN (ws.take j)) x.toNat) (by omega)
          rw [hlen] at hset
          rw [vals_snoc l ws j x ht, ← hset, List.map_set]
          exact hst.1
        case measure => simp [intOf]; omega
      · go_wp2
        go_ret3
        obtain rfl : j = n' := by omega
        have hcode : rdCode l.length ws = 0 := by rw [rdCode, HL.out]; exact HC.out
        have hall : ws.take j = ws := List.take_of_length_le (by rw [HL'.out]; omega)
        refine ⟨_, ret_three rfl (val_int (by rw [rdSum, if_pos hcode, hall])) (val_int hcode.symm), ?_, hbel⟩
        rw [rdVals, if_pos hcode]
        rw [hall, fill_full _ _ (by rw [valsOf_length, HL'.out])] at hown'
        rw [show (valsOf l 0 ws).length = j by rw [valsOf_length, HL'.out]]
        exact hown'
  · have HC := Lib.hid hc
    have hcn : (ckAll (n * 8) ws != 0) = true := by simp [hc]
    clear hc
    go_enter Tryd.func57, Tryd.ntmps57
    go_wp2_with (go_at_call 58; refine (bits_checkWidths ws _ _ _ _ _ _ hw (by omega) (by omega) (by omega)).mono ?_; rintro e w' ⟨rfl, rfl⟩)
    go_ret3
    have hcode : ¬ rdCode l.length ws = 0 := by rw [rdCode, HL.out]; exact HC.out
    refine ⟨_, ret_three rfl (val_int (by rw [rdSum, if_neg hcode])) (val_int (by rw [rdCode, HL.out])), ?_, Below.refl _ _⟩
    rw [rdVals, if_neg hcode]
    exact World.ownsRow_nil _ _ _ _
end Go.Proofs.YtekojlepmfmmpaaDoor
