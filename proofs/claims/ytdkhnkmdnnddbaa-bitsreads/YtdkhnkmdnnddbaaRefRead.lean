/- What the document's answer to Read does. No statement of the seat is proved here; no condition. -/
import Derived.Test.YtdkhnkmdnnddbaaBits
set_option linter.unusedSimpArgs false
set_option linter.unusedVariables false
namespace Go.Proofs.Ytdkhnkmdnnddbaa
open Go.RowKit Go.Ord Go.Baro

theorem ref_bit (l : List Int) (i : Nat) : l[i / 8]?.getD 0 / (128 / 2 ^ (i % 8)) % 2 = bitOf l i := by
  unfold bitOf
  have h : ∀ k < 8, (128 : Int) / 2 ^ k = 2 ^ (7 - k) := by decide
  rw [h (i % 8) (Nat.mod_lt _ (by decide))]

set_option maxHeartbeats 1000000 in
theorem ref_bitAt (l : List Int) (A : Option Addr) (n c : Nat) (i' : Int) (w : World) (B : Nat) (hb : RI w B .u8 A n l)
    (hr : ∀ x ∈ l, 0 ≤ x ∧ x < 256) (hn : n ≤ 140737488355328) (h0 : 0 ≤ i') (h1 : i' < 8 * n) :
    Calls Try.prog 24 #[.slice A n c, .int .i64 i'] w fun e w' => e = .returned (.int .i64 (bitOf l i'.toNat)) ∧ ∃ m, w' = w.drewN m := by
  obtain ⟨i, rfl⟩ := Int.eq_ofNat_of_zero_le h0
  simp only [Int.toNat_natCast]
  have hix : i / 8 < n := by omega
  obtain ⟨b, o, x, rfl, _, hcell, HX, hmem⟩ := hb.val hix
  have hx := hr x hmem
  have h128 : ∀ k < 8, (128 : Int) / 2 ^ k = 2 ^ (7 - k) := by decide
  have HP := Lib.hid (h128 (i % 8) (Nat.mod_lt _ (by decide)))
  have hp0 : 0 < (128 : Int) / 2 ^ (i % 8) := by rw [HP.out]; exact Int.pow_pos (by decide)
  clear h128
  have hdv : 0 ≤ x / ((128 : Int) / 2 ^ (i % 8)) := Int.ediv_nonneg hx.1 (by omega)
  go_enter Try.func24, Try.ntmps24
  go_wp2
  refine region_two [0, 1, 2, 3, 4, 5, 6, 7, 8, 9, 10, 11] [] (by kernel_rfl) (by kernel_rfl) ?_
  simp only [pick, List.map_cons, List.map_nil, List.getD_cons_zero, List.getD_cons_succ]
  go_wp2
  go_ret
  refine ⟨ret_int ?_, 1, rfl⟩
  rw [← ref_bit l i, HX.out]
  rfl

set_option maxHeartbeats 2000000 in
theorem ref_BitsRead (l ws : List Int) (A A' : Option Addr) (n c n' c' : Nat) (w : World) (hb : RI w w.heap.size .u8 A n l) (hw : RI w w.heap.size .i64 A' n' ws)
    (hr : ∀ x ∈ l, 0 ≤ x ∧ x < 256) (hn : n ≤ 140737488355328) (hn' : n' ≤ 140737488355328) :
    Calls Try.prog 12 #[.slice A n c, .slice A' n' c'] w (ReadPost l ws w) := by
  have HL := Lib.hid hb.len
  have HL' := Lib.hid hw.len
  have bad : ∀ code : Int, rdCode l.length ws = code → code ≠ 0 → ∀ (w' : World), Below w.heap.size w w' → ReadPost l ws w (.returned (.tuple #[.slice none 0 0, .int .i64 0, .int .i64 code])) w' := by
    intro code h1 h2 w' hbel
    have h3 : ¬ rdCode l.length ws = 0 := by rw [h1]; exact h2
    refine ⟨_, ret_three rfl (val_int (by rw [rdSum, if_neg h3])) (val_int h1.symm), ?_, hbel⟩
    rw [rdVals, if_neg h3]
    exact World.ownsRow_nil _ _ _ _
  have BAD := Lib.hid bad
  clear bad
  by_cases hbig : 400 < n'
  · go_enter Try.func12, Try.ntmps12
    go_wp2
    go_ret3
    exact BAD.out 1 (by rw [rdCode, ckAll_big (by rw [HL'.out]; exact hbig)]) (by decide) _ (Below.refl _ _)
  · go_enter Try.func12, Try.ntmps12
    go_wp2
    go_loopw [7, 8, 18] (fun s v i wr => ∃ j : Nat, j ≤ n' ∧ i = .int .i64 j ∧ s = .int .i64 ↑(sumN (ws.take j)) ∧ (sumN (ws.take j) : Int) ≤ 8 * n ∧ Hid (ckW (n * 8) ws = ckW (n * 8 - sumN (ws.take j)) (ws.drop j)) ∧
        wr.ownsRow w.heap.size 3 1 v j ((valsOf l 0 (ws.take j)).map (Value.int .i64)) ∧ Below w.heap.size w wr) (fun _ _ i _ => n' - (intOf i).toNat)
    case atStart => exact ⟨0, Nat.zero_le _, rfl, rfl, by simp [sumN]; omega, by simp [Hid, sumN], World.ownsRow_nil _ _ _ _, Below.refl _ _⟩
    case round =>
      obtain ⟨j, hj, rfl, rfl, hs, HC, hown, hbel⟩ := hrel
      by_cases hlt : j < n'
      · obtain ⟨b, o, x, rfl, _, hcell, HX, hmem⟩ := (hw.below hbel).val hlt
        by_cases hneg : x < 0
        · go_wp2
          go_ret3
          refine BAD.out 2 ?_ (by decide) _ hbel
          rw [rdCode, ckAll_not (by rw [HL'.out]; omega), HL.out, HC.out, at_drop HX.out]
          simp only [ckW]
          rw [if_neg (by omega)]
        · by_cases hx60 : 60 < x
          · go_wp2
            go_ret3
            refine BAD.out 2 ?_ (by decide) _ hbel
            rw [rdCode, ckAll_not (by rw [HL'.out]; omega), HL.out, HC.out, at_drop HX.out]
            simp only [ckW]
            rw [if_neg (by omega)]
          · by_cases hov : 8 * (n : Int) < ↑(sumN (ws.take j)) + x
            · go_wp2
              go_ret3
              refine BAD.out 5 ?_ (by decide) _ hbel
              rw [rdCode, ckAll_not (by rw [HL'.out]; omega), HL.out, HC.out, at_drop HX.out]
              simp only [ckW]
              rw [if_pos (by omega), if_pos (by omega)]
            · obtain ⟨k, rfl⟩ := Int.eq_ofNat_of_zero_le (show 0 ≤ x by omega)
              go_wp2
              go_loopw [11, 12] (fun v i wq => ∃ q : Nat, q ≤ k ∧ i = .int .i64 q ∧ v = .int .i64 (fldOf l (sumN (ws.take j)) q) ∧ ∃ m, wq = wr.drewN m) (fun _ i _ => k - (intOf i).toNat)
              case atStart => exact ⟨0, Nat.zero_le _, rfl, rfl, 0, rfl⟩
              case round =>
                obtain ⟨q, hq, rfl, rfl, m, rfl⟩ := hrel
                have hbd := fldOf_bd l (sumN (ws.take j)) q
                have hp := pow_le (j := q) (k := 60) (by omega)
                have hq01 := bitOf_01 l (sumN (ws.take j) + q)
                by_cases hlq : q < k
                · have hp := pow_le (j := q) (k := 59) (by omega)
                  go_wp2_with (go_at_call 24; refine (ref_bitAt l _ _ _ _ _ _ (by exact (hb.below hbel).heap rfl) hr (by omega) (by omega) (by omega)).mono ?_; rintro e w' ⟨rfl, m', rfl⟩)
                  go_roundw
                  case rel => exact ⟨q + 1, by omega, by go_num, rfl, _, rfl⟩
                  case measure => simp [intOf]; omega
                · obtain rfl : q = k := by omega
                  go_wp2_with (at_builtin; refine app_lit eltInt _ rfl _ _ rfl w.heap.size _ _ _ rfl (by exact hown) 1 [_] _ rfl rfl rfl (one1 _ _) (by omega) (by omega) (by exact hbel.size) ?_; intro v' w1 hown' _ hbel' _)
                  go_roundw
                  case rel =>
                    have ht := at_take HX.out
                    refine ⟨j + 1, by omega, by go_num, val_int (sumN_snoc ws j q ht (by omega)).symm, ?_, ?_, ?_, hbel' _ (hbel.drewN m)⟩
                    · rw [sumN_snoc ws j q ht (by omega)]; omega
                    · show _ = _
                      rw [HC.out, at_drop HX.out, ckW_step _ _ _ (by omega) (by omega) (by omega), sumN_snoc ws j q ht (by omega)]
                      congr 1; omega
                    · rw [vals_snoc l ws j q ht, List.map_append]
                      exact hown'
                  case measure => simp [intOf]; omega
      · go_wp2
        go_ret3
        obtain rfl : j = n' := by omega
        have hall : ws.take j = ws := List.take_of_length_le (by rw [HL'.out]; omega)
        have hcode : rdCode l.length ws = 0 := by
          rw [rdCode, ckAll_not (by rw [HL'.out]; omega), HL.out, HC.out, List.drop_eq_nil_of_le (by rw [HL'.out]; omega)]; rfl
        refine ⟨_, ret_three rfl (val_int (by rw [rdSum, if_pos hcode, hall])) (val_int hcode.symm), ?_, hbel⟩
        rw [rdVals, if_pos hcode, show (valsOf l 0 ws).length = j by rw [valsOf_length, HL'.out]]
        rw [hall] at hown
        exact hown
end Go.Proofs.Ytdkhnkmdnnddbaa
