/- What the document's answers to the samples' faults and numbers do. No statement of the seat is proved here; no condition. -/
import Derived.Test.YtnpabbinckcbaaaDoorRows
import Derived.Test.YtnpabbinckcbaaaDoorChunkPure
import Derived.Test.YtnpabbinckcbaaaDoorLibB
set_option linter.unusedSimpArgs false
set_option linter.unusedVariables false
namespace Go.Proofs.YtnpabbinckcbaaaDoor
open Go.RowKit Go.Ord Go.Baro

theorem ref_inBounds (n : Int) (r : Bool) (w : World) (hr : r = true ↔ -36028797018963968 ≤ n ∧ n < 36028797018963968) :
    Calls Tryd.prog 29 #[.int .i64 n] w fun e w' => e = .returned (.bool r) ∧ w = w' := by
  have H := Lib.hid hr
  clear hr
  by_cases h : -36028797018963968 ≤ n
  · go_enter Tryd.func29, Tryd.ntmps29
    go_wp2
    go_ret
    refine ⟨ret_bool ?_, rfl⟩
    have := H.out
    cases r <;> simp at this ⊢ <;> omega
  · go_enter Tryd.func29, Tryd.ntmps29
    go_wp2
    go_ret
    refine ⟨ret_bool ?_, rfl⟩
    have := H.out
    cases r <;> simp at this ⊢ <;> omega

set_option maxHeartbeats 1000000 in
theorem ref_SamplesFault (l : List (Int × Int)) (A : Option Addr) (n c : Nat) (w : World) (hb : RF w w.heap.size A n l) (hn : n ≤ 8796093022208) :
    Calls Tryd.prog 19 #[.slice A n c] w fun e w' => e = .returned (.int .i64 (chC l)) ∧ Below w.heap.size w w' := by
  have HL := Lib.hid hb.len
  by_cases hbig : 120 < n
  · have HE := Lib.hid (chC_big (l := l) (by rw [HL.out]; exact hbig))
    go_enter Tryd.func19, Tryd.ntmps19
    go_wp2
    go_ret
    exact ⟨ret_int HE.out.symm, Below.refl _ _⟩
  · have HE := Lib.hid (chC_of (l := l) (by rw [HL.out]; omega))
    go_enter Tryd.func19, Tryd.ntmps19
    go_wp2
    go_loopw [10] (fun i wr => ∃ (j : Nat) (q : St), j ≤ n ∧ i = .int .i64 j ∧ Hid (StIs l j q) ∧ Hid (ckL st0 l = ckL q (l.drop j)) ∧ Below w.heap.size w wr) (fun i _ => n - (intOf i).toNat)
    case atStart => exact ⟨0, st0, Nat.zero_le _, rfl, StIs.nil l, rfl, Below.refl _ _⟩
    case round =>
      obtain ⟨j, q, hj, rfl, HS, HC, hbel⟩ := hrel
      have hsz := hbel.size
      by_cases hlt : j < n
      · obtain ⟨b, o, x, y, rfl, hbb, hcx, hcy, HX, hmem⟩ := (hb.below hbel).val hlt
        have hbs : b < wr.heap.size := by omega
        by_cases h1 : -36028797018963968 ≤ x ∧ x < 36028797018963968
        · by_cases h2 : -36028797018963968 ≤ y ∧ y < 36028797018963968
          · rcases Nat.eq_zero_or_pos j with rfl | hpos
            · have HK := Lib.hid (show ck1 q (x, y) = 0 from ck1_ok h1 h2 (fun h => by rw [HS.out.zero rfl] at h; cases h))
              simp only [Nat.zero_mul, Nat.add_zero] at hcx hcy
              go_wp2_with (go_at_call 29; refine (ref_inBounds _ true _ (by simp; omega)).mono ?_; rintro e w' ⟨rfl, rfl⟩)
              refine region_two [0, 1, 2, 3, 4, 5, 6, 7, 8, 9, 10, 11, 12] [] (by kernel_rfl) (by kernel_rfl) ?_
              simp only [pick, List.map_cons, List.map_nil, List.getD_cons_zero, List.getD_cons_succ]
              go_wp2
              go_roundw
              case rel =>
                refine ⟨1, adv q (x, y), by omega, by go_num, HS.out.step HX.out, ?_, (hbel.alloc hsz _).drew⟩
                show _ = _
                rw [HC.out, at_drop HX.out, ckL_cons HK.out]
              case measure => simp [intOf]; omega
            · obtain ⟨k, rfl⟩ : ∃ k, j = k + 1 := ⟨j - 1, by omega⟩
              obtain ⟨b', o', x', y', hA, _, hcx', hcy', HX', _⟩ := (hb.below hbel).val (show k < n by omega)
              injection hA with hA
              injection hA with hA1 hA2
              subst hA1 hA2
              have HQ := Lib.hid (HS.out.last _ (Nat.succ_pos k) HX'.out)
              have hk1 : ((k + 1 : Nat) : Int) - 1 = (k : Int) := by omega
              by_cases hle : x ≤ x'
              · have HK := Lib.hid (show ck1 q (x, y) = 9 from ck1_old ⟨h1, h2⟩ HQ.out.2.2 (by rw [HQ.out.1]; exact hle))
                go_wp2_with (go_at_call 29; refine (ref_inBounds _ true _ (by simp; omega)).mono ?_; rintro e w' ⟨rfl, rfl⟩)
                refine region_two [0, 1, 2, 3, 4, 5, 6, 7, 8, 9, 10, 11, 12] [] (by kernel_rfl) (by kernel_rfl) ?_
                simp only [pick, List.map_cons, List.map_nil, List.getD_cons_zero, List.getD_cons_succ]
                go_wp2
                go_ret
                refine ⟨ret_int ?_, (hbel.alloc hsz _).drew⟩
                rw [HE.out, HC.out, at_drop HX.out, ckL_bad (by rw [HK.out]; decide), HK.out]
              · have HK := Lib.hid (show ck1 q (x, y) = 0 from ck1_ok h1 h2 (fun h => by rw [HQ.out.1]; dsimp only; omega))
                go_wp2_with (go_at_call 29; refine (ref_inBounds _ true _ (by simp; omega)).mono ?_; rintro e w' ⟨rfl, rfl⟩)
                refine region_two [0, 1, 2, 3, 4, 5, 6, 7, 8, 9, 10, 11, 12] [] (by kernel_rfl) (by kernel_rfl) ?_
                simp only [pick, List.map_cons, List.map_nil, List.getD_cons_zero, List.getD_cons_succ]
                go_wp2
                go_roundw
                case rel =>
                  refine ⟨k + 1 + 1, adv q (x, y), by omega, by go_num, HS.out.step HX.out, ?_, (hbel.alloc hsz _).drew⟩
                  show _ = _
                  rw [HC.out, at_drop HX.out, ckL_cons HK.out]
                case measure => simp [intOf]; omega
          · have HK := Lib.hid (ck1_over (q := q) (x := (x, y)) (fun h => h2 h.2))
            go_wp2_with fail
            refine (ref_inBounds x true _ (by simp; omega)).mono ?_
            rintro e w' ⟨rfl, rfl⟩
            go_wp2_with fail
            refine (ref_inBounds y false _ (by simp; omega)).mono ?_
            rintro e w' ⟨rfl, rfl⟩
            go_wp2
            go_ret
            refine ⟨ret_int ?_, hbel.alloc hsz _⟩
            rw [HE.out, HC.out, at_drop HX.out, ckL_bad (by rw [HK.out]; decide), HK.out]
        · have HK := Lib.hid (ck1_over (q := q) (x := (x, y)) (fun h => h1 h.1))
          go_wp2_with fail
          refine (ref_inBounds x false _ (by simp; omega)).mono ?_
          rintro e w' ⟨rfl, rfl⟩
          go_wp2
          go_ret
          refine ⟨ret_int ?_, hbel.alloc hsz _⟩
          rw [HE.out, HC.out, at_drop HX.out, ckL_bad (by rw [HK.out]; decide), HK.out]
      · obtain rfl : j = n := by omega
        go_wp2
        go_ret
        refine ⟨ret_int ?_, hbel⟩
        rw [HE.out, HC.out, List.drop_eq_nil_of_le (by rw [HL.out]; omega)]
        rfl

theorem num_one {l : List (Int × Int)} {q : St} {x : Int × Int} (h : StIs l 1 q) {a : Int × Int} (ha : l[0]? = some a) : x.1 - q.t - q.s = x.1 - a.1 ∧ x.2 - q.v = x.2 - a.2 := by
  have h1 := h.last a (by decide) ha
  have h2 := h.one rfl
  rw [h1.1, h1.2.1, h2]
  omega
theorem num_two {l : List (Int × Int)} {q : St} {k : Nat} {x : Int × Int} (h : StIs l (k + 2) q) {a b : Int × Int} (ha : l[k + 1]? = some a) (hb : l[k]? = some b) : x.1 - q.t - q.s = x.1 - 2 * a.1 + b.1 ∧ x.2 - q.v = x.2 - a.2 := by
  have h1 := h.last a (by omega) ha
  have h2 := h.two a b (by omega) ha hb
  rw [h1.1, h1.2.1, h2]
  omega

end Go.Proofs.YtnpabbinckcbaaaDoor
