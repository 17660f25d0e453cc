/- The document's answers on Adler sums. No statement of the seat is proved here; no condition. -/
import Derived.Test.YtpgjjndmbkkhiaaRows
import Derived.Test.YtpgjjndmbkkhiaaAdlerPure
set_option linter.unusedSimpArgs false
set_option linter.unusedVariables false
namespace Go.Proofs.Ytpgjjndmbkkhiaa
open Go.RowKit Go.Ord Go.Baro

set_option maxHeartbeats 1000000 in
theorem ref_AdlerMore (s : Int) (l : List Int) (A : Option Addr) (n c : Nat) (w : World) (B : Nat) (hb : RI w B .u8 A n l) (hr : ∀ x ∈ l, 0 ≤ x ∧ x < 256) (hn : n ≤ 140737488355328) (r0 : -9223372036854775808 ≤ s) (r1 : s ≤ 9223372036854775807) :
    Calls Try.prog 20 #[.int .i64 s, .slice A n c] w fun e w' => e = .returned (.tuple #[.int .i64 (moR s l), .int .i64 (moC s)]) ∧ w = w' := by
  have HL := Lib.hid hb.len
  have HR := Lib.hid hr
  clear hr
  by_cases h : okS s
  · have HM := Lib.hid (mo_in h l)
    have HU := Lib.hid (okU_of h)
    unfold okS at h
    go_enter Try.func20, Try.ntmps20
    go_wp2
    go_loopw [6, 7, 26] (fun a b i wr => ∃ (j : Nat) (S T : Int), j ≤ n ∧ i = .int .i64 j ∧ a = .int .i64 S ∧ b = .int .i64 T ∧ okU (S, T) ∧ Hid ((S, T) = adL (adU s) (l.take j)) ∧ wr = w) (fun _ _ i _ => n - (intOf i).toNat)
    case atStart => exact ⟨0, _, _, Nat.zero_le _, rfl, rfl, rfl, HU.out, rfl, rfl⟩
    case round =>
      obtain ⟨j, S, T, hj, rfl, rfl, rfl, hok, HE, rfl⟩ := hrel
      by_cases hlt : j < n
      · obtain ⟨b, o, x, rfl, _, hcell, HX, hmem⟩ := hb.val hlt
        have hx := HR.out x hmem
        unfold okU at hok
        obtain ⟨⟨q1, q2⟩, q3, q4⟩ := hok
        dsimp only at q1 q2 q3 q4
        go_wp2
        go_loopw [6] (fun a wr' => ∃ S1 : Int, a = .int .i64 S1 ∧ Hid (S1 % 65521 = (S + x) % 65521) ∧ 0 ≤ S1 ∧ S1 < 131042 ∧ wr' = wr) (fun a _ => (intOf a).toNat)
        case atStart => exact ⟨_, rfl, rfl, by omega, by omega, rfl⟩
        case round =>
          obtain ⟨S1, rfl, HS, s1, s2, rfl⟩ := hrel
          by_cases hge : 65521 ≤ S1
          · go_wp2
            go_roundw
            case rel => exact ⟨S1 - 65521, rfl, by show _ = _; rw [← HS.out]; omega, by omega, by omega, by first | rfl | trivial⟩
            case measure => simp [intOf]; omega
          · go_wp2
            go_loopw [7] (fun a wr' => ∃ T1 : Int, a = .int .i64 T1 ∧ Hid (T1 % 65521 = (T + S1) % 65521) ∧ 0 ≤ T1 ∧ T1 < 131042 ∧ wr' = wr) (fun a _ => (intOf a).toNat)
            case atStart => exact ⟨_, rfl, rfl, by omega, by omega, rfl⟩
            case round =>
              obtain ⟨T1, rfl, HT, t1, t2, rfl⟩ := hrel
              by_cases hge' : 65521 ≤ T1
              · go_wp2
                go_roundw
                case rel => exact ⟨T1 - 65521, rfl, by show _ = _; rw [← HT.out]; omega, by omega, by omega, by first | rfl | trivial⟩
                case measure => simp [intOf]; omega
              · go_wp2
                go_roundw
                case rel =>
                  refine ⟨j + 1, S1, T1, by omega, by go_num, rfl, rfl, ⟨⟨by dsimp only; omega, by dsimp only; omega⟩, by dsimp only; omega, by dsimp only; omega⟩, ?_, by first | rfl | trivial⟩
                  show _ = _
                  rw [adL_take _ HX.out, ← HE.out]
                  unfold ad1
                  dsimp only
                  have e1 := HS.out
                  have e2 := HT.out
                  rw [Prod.mk.injEq]
                  omega
                case measure => simp [intOf]; omega
      · unfold okU at hok
        obtain ⟨⟨q1, q2⟩, q3, q4⟩ := hok
        dsimp only at q1 q2 q3 q4
        go_wp2
        go_ret2
        refine ⟨ret_two (val_int ?_) (val_int HM.out.2.symm), by first | rfl | trivial⟩
        rw [HM.out.1]
        have := HE.out
        rw [List.take_of_length_le (by rw [HL.out]; omega)] at this
        rw [← this]
        rfl
  · have HM := Lib.hid (mo_out h l)
    unfold okS at h
    by_cases h1 : s < 0
    · go_enter Try.func20, Try.ntmps20
      go_wp2
      go_ret2
      exact ⟨ret_two (val_int HM.out.1.symm) (val_int HM.out.2.symm), rfl⟩
    by_cases h2 : s % 65536 < 65521
    · go_enter Try.func20, Try.ntmps20
      go_wp2
      go_ret2
      exact ⟨ret_two (val_int HM.out.1.symm) (val_int HM.out.2.symm), rfl⟩
    · go_enter Try.func20, Try.ntmps20
      go_wp2
      go_ret2
      exact ⟨ret_two (val_int HM.out.1.symm) (val_int HM.out.2.symm), rfl⟩
end Go.Proofs.Ytpgjjndmbkkhiaa
