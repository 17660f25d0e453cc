/- The document's answers on Adler sums. No statement of the seat is proved here; no condition. -/
import Derived.Test.YtadlkecodlhaaaaRows
import Derived.Test.YtadlkecodlhaaaaAdlerPure
set_option linter.unusedSimpArgs false
set_option linter.unusedVariables false
namespace Go.Proofs.Ytadlkecodlhaaaa
open Go.RowKit Go.Ord Go.Baro

set_option maxHeartbeats 1000000 in
theorem ref_AdlerMore (s : Int) (l : List Int) (A : Option Addr) (n c : Nat) (w : World) (B : Nat) (hb : RI w B .u8 A n l) (hr : ∀ x ∈ l, 0 ≤ x ∧ x < 256) (hn : n ≤ 140737488355328) (r0 : -9223372036854775808 ≤ s) (r1 : s ≤ 9223372036854775807) :
    Calls Try.prog 9 #[.int .i64 s, .slice A n c] w fun e w' => e = .returned (.tuple #[.int .i64 (moR s l), .int .i64 (moC s)]) ∧ w = w' := by
  have HL := Lib.hid hb.len
  have HR := Lib.hid hr
  clear hr
  by_cases h : okS s
  · have HM := Lib.hid (mo_in h l)
    have HU := Lib.hid (okU_of h)
    unfold okS at h
    go_enter Try.func9, Try.ntmps9
    go_wp2
    go_loopw [6, 7, 26] (fun a b i wr => ∃ (j : Nat) (S T : Int), j ≤ n ∧ i = .int .i64 j ∧ a = .int .i64 S ∧ b = .int .i64 T ∧ okU (S, T) ∧ Hid ((S, T) = adL (adU s) (l.take j)) ∧ wr = w) (fun _ _ i _ => n - (intOf i).toNat)
    case atStart => exact ⟨0, _, _, Nat.zero_le _, rfl, rfl, rfl, HU.out, rfl, rfl⟩
    case round =>
      obtain ⟨j, S, T, hj, rfl, rfl, rfl, hok, HE, rfl⟩ := hrel
      by_cases hlt : j < n
      · obtain ⟨b, o, x, rfl, _, hcell, HX, hmem⟩ := hb.val hlt
        have hx := HR.out x hmem
        unfold okU at hok
        obtain ⟨⟨q1, q2⟩, q3, q4⟩ := hok
        dsimp only at q1 q2 q3 q4
        go_wp2
        go_loopw [6] (fun a wr' => ∃ S1 : Int, a = .int .i64 S1 ∧ Hid (S1 % 65521 = (S + x) % 65521) ∧ 0 ≤ S1 ∧ S1 < 131042 ∧ wr' = wr) (fun a _ => (intOf a).toNat)
        case atStart => exact ⟨_, rfl, rfl, by omega, by omega, rfl⟩
        case round =>
          obtain ⟨S1, rfl, HS, s1, s2, rfl⟩ := hrel
          by_cases hge : 65521 ≤ S1
          · go_wp2
            go_roundw
            case rel => exact ⟨S1 - 65521, rfl, by show _ = _; rw [← HS.out]; omega, by omega, by omega, by first | rfl | trivial⟩
            case measure => simp [intOf]; omega
          · go_wp2
            go_loopw [7] (fun a wr' => ∃ T1 : Int, a = .int .i64 T1 ∧ Hid (T1 % 65521 = (T + S1) % 65521) ∧ 0 ≤ T1 ∧ T1 < 131042 ∧ wr' = wr) (fun a _ => (intOf a).toNat)
            case atStart => exact ⟨_, rfl, rfl, by omega, by omega, rfl⟩
            case round =>
              obtain ⟨T1, rfl, HT, t1, t2, rfl⟩ := hrel
              by_cases hge' : 65521 ≤ T1
              · go_wp2
                go_roundw
                case rel => exact ⟨T1 - 65521, rfl, by show _ = _; rw [← HT.out]; omega, by omega, by omega, by first | rfl | trivial⟩
                case measure => simp [intOf]; omega
              · go_wp2
                go_roundw
                case rel =>
                  refine ⟨j + 1, S1, T1, by omega, by go_num, rfl, rfl, ⟨⟨by dsimp only; omega, by dsimp only; omega⟩, by dsimp only; omega, by dsimp only; omega⟩, ?_, by first | rfl | trivial⟩
                  show _ = _
                  rw [adL_take _ HX.out, ← HE.out]
                  unfold ad1
                  dsimp only
                  have e1 := HS.out
                  have e2 := HT.out
                  rw [Prod.mk.injEq]
                  omega
                case measure => simp [intOf]; omega
      · unfold okU at hok
        obtain ⟨⟨q1, q2⟩, q3, q4⟩ := hok
        dsimp only at q1 q2 q3 q4
        go_wp2
        go_ret2
        refine ⟨ret_two (val_int ?_) (val_int HM.out.2.symm), by first | rfl | trivial⟩
        rw [HM.out.1]
        have := HE.out
        rw [List.take_of_length_le (by rw [HL.out]; omega)] at this
        rw [← this]
        rfl
  · have HM := Lib.hid (mo_out h l)
    unfold okS at h
    by_cases h1 : s < 0
    · go_enter Try.func9, Try.ntmps9
      go_wp2
      go_ret2
      exact ⟨ret_two (val_int HM.out.1.symm) (val_int HM.out.2.symm), rfl⟩
    by_cases h2 : s % 65536 < 65521
    · go_enter Try.func9, Try.ntmps9
      go_wp2
      go_ret2
      exact ⟨ret_two (val_int HM.out.1.symm) (val_int HM.out.2.symm), rfl⟩
    · go_enter Try.func9, Try.ntmps9
      go_wp2
      go_ret2
      exact ⟨ret_two (val_int HM.out.1.symm) (val_int HM.out.2.symm), rfl⟩

theorem red2 (a : Int) : ((a.tmod 65521 + 65521).tmod 65521) = a % 65521 := by
  have hb1 : -65521 < a.tmod 65521 := Int.lt_tmod_of_pos a (by decide)
  have hb2 : a.tmod 65521 < 65521 := Int.tmod_lt_of_pos a (by decide)
  rw [Int.tmod_eq_emod_of_nonneg (a := a.tmod 65521 + 65521) (by omega), Int.tmod_eq_emod]
  split <;> simp <;> omega
theorem ref_mod (a : Int) (w : World) :
    Calls Try.prog 20 #[.int .i64 a] w fun e w' => (∃ r, e = .returned (.int .i64 r) ∧ Hid (r = a % 65521) ∧ 0 ≤ r ∧ r < 65521) ∧ w = w' := by
  have HT := Lib.hid (red2 a)
  have hb1 : -65521 < a.tmod 65521 := Int.lt_tmod_of_pos a (by decide)
  have hb2 : a.tmod 65521 < 65521 := Int.tmod_lt_of_pos a (by decide)
  go_enter Try.func20, Try.ntmps20
  go_wp2
  go_ret
  have h := HT.out
  rw [Int.tmod_eq_emod_of_nonneg (by omega)] at h
  exact ⟨⟨_, rfl, h, by omega, by omega⟩, by first | rfl | trivial⟩

set_option maxHeartbeats 1000000 in
theorem ref_AdlerSlide (s n o i : Int) (w : World) (r0 : -9223372036854775808 ≤ s) (r1 : s ≤ 9223372036854775807) (ho : 0 ≤ o ∧ o < 256) (hi : 0 ≤ i ∧ i < 256) (n0 : -9223372036854775808 ≤ n) (n1 : n ≤ 9223372036854775807) :
    Calls Try.prog 13 #[.int .i64 s, .int .i64 n, .int .u8 o, .int .u8 i] w fun e w' => e = .returned (.tuple #[.int .i64 (slR s n o i), .int .i64 (slC s n)]) ∧ w = w' := by
  by_cases h : okS s ∧ okN n
  · obtain ⟨h, h'⟩ := h
    have HM := Lib.hid (sl_in h h' o i)
    unfold okN at h'
    have hp0 : 0 ≤ n * o := Int.mul_nonneg (by omega) ho.1
    have hp1 : n * o ≤ 1048576 * 255 := Int.mul_le_mul h'.2 (by omega) ho.1 (by decide)
    unfold okS at h
    go_enter Try.func13, Try.ntmps13
    go_wp2_with fail
    refine (ref_mod _ _).mono ?_
    rintro e w1 ⟨⟨T1, rfl, HT, t1, t2⟩, rfl⟩
    go_wp2_with fail
    refine (ref_mod _ _).mono ?_
    rintro e w1 ⟨⟨S1, rfl, HS, s1, s2⟩, rfl⟩
    go_wp2
    go_ret2
    refine ⟨ret_two (val_int ?_) (val_int HM.out.2.symm), by first | rfl | trivial⟩
    rw [HM.out.1]
    unfold slU adU adJ
    dsimp only
    rw [← HS.out, HT.out, HS.out]
    omega
  · have HM := Lib.hid (sl_out (s := s) (n := n) h o i)
    unfold okS okN at h
    by_cases h1 : s < 0
    · go_enter Try.func13, Try.ntmps13
      go_wp2
      go_ret2
      exact ⟨ret_two (val_int HM.out.1.symm) (val_int HM.out.2.symm), rfl⟩
    by_cases h2 : 65521 ≤ s % 65536
    · go_enter Try.func13, Try.ntmps13
      go_wp2
      go_ret2
      exact ⟨ret_two (val_int HM.out.1.symm) (val_int HM.out.2.symm), rfl⟩
    by_cases h3 : 65521 ≤ s / 65536
    · go_enter Try.func13, Try.ntmps13
      go_wp2
      go_ret2
      exact ⟨ret_two (val_int HM.out.1.symm) (val_int HM.out.2.symm), rfl⟩
    by_cases h4 : n < 1
    · go_enter Try.func13, Try.ntmps13
      go_wp2
      go_ret2
      exact ⟨ret_two (val_int HM.out.1.symm) (val_int HM.out.2.symm), rfl⟩
    · go_enter Try.func13, Try.ntmps13
      go_wp2
      go_ret2
      exact ⟨ret_two (val_int HM.out.1.symm) (val_int HM.out.2.symm), rfl⟩
end Go.Proofs.Ytadlkecodlhaaaa
