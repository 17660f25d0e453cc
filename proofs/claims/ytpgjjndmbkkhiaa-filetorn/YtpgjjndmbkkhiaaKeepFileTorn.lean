/- Of a truncated file exactly the complete records are returned: the law's call returns true, for every input, and leaves what was there as it was. No condition but that each slice takes at most 2^47 - 4096 bytes. -/
import Derived.Test.YtpgjjndmbkkhiaaKeepFileOf
import Derived.Test.YtpgjjndmbkkhiaaSameBytesK
import Derived.Test.YtpgjjndmbkkhiaaKeepPicked
set_option linter.unusedSimpArgs false
set_option linter.unusedVariables false
namespace Go.Proofs.Ytpgjjndmbkkhiaa
open Go.ChangeShapes Go.WideShapes Go.ChangeAt Go.RowKit Go.Ord Go.Baro

theorem opn_one : opn 200 [0, 0, 0, 0, 0, 1] = ([[]], 6, 0) := by decide +kernel

set_option maxRecDepth 100000 in
set_option maxHeartbeats 4000000 in
theorem keep_FileTorn (w : World) (A0 : Option Addr) (n0 c0 : Nat) (x0 : List (List Int)) (h0 : RL w w.heap.size A0 n0 x0) (b0 : n0 ≤ 5864062014805) (r0 : ∀ l ∈ x0, l.length ≤ 9223372036854775807 ∧ ∀ y ∈ l, 0 ≤ y ∧ y < 256) (l0 : n0 ≤ c0)
    (x1 : Int) (r1 : -9223372036854775808 ≤ x1 ∧ x1 ≤ 9223372036854775807) :
    Calls Try.prog 6 #[.slice A0 n0 c0, .int .i64 x1] w fun e w' => e = .returned (.bool true) ∧ Below w.heap.size w w' := by
  obtain ⟨q1, q2, q3, q4, q5⟩ := trim_ok 40 r0
  obtain ⟨rs, hrs⟩ : ∃ rs, rs = trim x0 40 := ⟨_, rfl⟩
  rw [← hrs] at q1 q2 q3 q4 q5
  have HRS := Lib.hid hrs
  have HQ2 := Lib.hid q2
  have HQ3 := Lib.hid q3
  have HO := Lib.hid (opn_torn rs q2 200)
  have HK : rs.length ≤ 200 := by omega
  have HR := Lib.hid r0
  clear hrs q1 q2 q3 r0
  go_enter Try.func6, Try.ntmps6
  go_wp2_with fail
  refine (keep_FileOf x0 _ _ _ 40 _ h0 HR.out (by omega) (by omega)).mono ?_
  rintro e w1 ⟨V, M, k1, A1, N, k2, cs, rfl, hv1, hrow1, hobs1, hb1⟩
  rw [← HRS.out] at hv1 hobs1
  have HM := Lib.hid (own_len hv1)
  have HN := Lib.hid (row_len hrow1 hobs1)
  have hM : M ≤ 4240 := by rw [HM.out]; omega
  have hN : N ≤ 40 := by rw [← HN.out]; omega
  clear q4 q5
  have hf1 : RI w1 w1.heap.size .u8 V M (flL rs) := Rd.of_own hv1
  obtain ⟨_, _, ⟨⟩, hk1⟩ := own_form hv1
  have hL1 : RL w1 w1.heap.size A1 N rs := hobs1.rl hrow1
  clear hv1 hrow1 hobs1
  go_wp2_with fail
  refine (keep_Picked x1 (M + 1) _ (by omega) (by omega)).mono ?_
  rintro e w2 ⟨rfl, rfl⟩
  obtain ⟨P, HP⟩ : ∃ P : Nat, Hid (x1 % ((M : Int) + 1) = P) := ⟨(x1 % ((M : Int) + 1)).toNat, Lib.hid (by have := Int.emod_nonneg x1 (show (M : Int) + 1 ≠ 0 by omega); omega)⟩
  have hP : P ≤ M := by have := Int.emod_lt_of_pos x1 (show (0 : Int) < (M : Int) + 1 by omega); have := HP.out; omega
  rw [HP.out]
  have HO1 := Lib.hid (HO.out P HK (by rw [← HM.out]; exact hP))
  clear HO HK
  have hf2 := hf1.take hP
  have HQ4 : Hid (∀ x ∈ (flL rs).take P, 0 ≤ x ∧ x < 256) := Lib.hid (fun x hx => HQ3.out x (List.mem_of_mem_take hx))
  go_wp2_with (at_builtin; go_must (refine app_src eltOct w1 rfl _ _ rfl w1.heap.size _ 0 [] rfl (World.ownsRow_nil _ _ _ _) _ _ _ (((flL rs).take P).map (Value.int .u8)) (by rfl) _ (by exact hf2) (one_ints _ _) (by omega) (by omega) (Nat.le_refl _) ?_); intro v2 w2 hv2 _ hbel2 _; rw [List.nil_append, Nat.zero_add] at hv2; obtain ⟨V2, c2, rfl, hc2⟩ := own_form hv2; have hb2 : Below w1.heap.size w1 w2 := hbel2 w1 (Below.refl _ _))
  refine (file_Open ((flL rs).take P) _ _ _ _ (Rd.of_own hv2) HQ4.out (by omega) hc2).mono ?_
  rintro e w3 ⟨A3, N3, k3, cs3, ls3, p3, y3, rfl, hrow3, hobs3, HO3, hb3⟩
  have HN3 := Lib.hid (row_len hrow3 hobs3)
  have hb13 : Below w1.heap.size w1 w3 := hb2.trans (hb3.mono hb2.size)
  have hL3 : RL w3 w3.heap.size A3 N3 ls3 := hobs3.rl hrow3
  have hL1b : RL w3 w3.heap.size A1 N rs := (hL1.below hb13).more hb13.size
  have hbA : Below w.heap.size w w3 := hb1.trans (hb13.mono hb1.size)
  have hp3 : p3 ≤ 5000 ∧ N3 ≤ 200 := by
    have h := opn_few 200 ((flL rs).take P)
    rw [HO3.out, List.length_take] at h
    have := HN3.out
    dsimp only at h
    omega
  clear hrow3 hobs3 hL1 hf1 hf2 hv2 hbel2 hb2 hb3 hb13 hb1 
  go_wp2
  go_loopw [12, 13] (fun a i wr => ∃ j q : Nat, j ≤ N ∧ q ≤ P ∧ a = .int .i64 q ∧ i = .int .i64 j ∧ Hid (Whl rs P j q) ∧ w3 = wr) (fun _ i _ => N - (intOf i).toNat)
  case atStart => exact ⟨0, 0, Nat.zero_le _, Nat.zero_le _, rfl, rfl, Whl.start rs P, rfl⟩
  case round =>
    obtain ⟨j, q, hj, hq, rfl, rfl, HW, rfl⟩ := hrel
    by_cases hlt : j < N
    · obtain ⟨b, o, B1, n1, c1, l1, hA1, _, hcell, _, hr1, HX, hm1⟩ := hL1b.val hlt
      subst hA1
      have hl1 := HQ2.out l1 hm1
      have HN1 := Lib.hid hr1.len
      rw [hr1.len] at hl1
      by_cases hfit : q + (6 + n1) ≤ P
      · go_wp2
        go_roundw
        case rel => exact ⟨j + 1, q + (6 + n1), by omega, hfit, by go_num, by go_num, by show Whl _ _ _ _; have := HW.out.next HX.out (by rw [HN1.out]; exact hfit); rw [HN1.out] at this; exact this, by first | rfl | trivial⟩
        case measure => simp [intOf]; omega
      · have HE := Lib.hid (HW.out.stop HX.out (by rw [HN1.out]; omega))
        have he := HO3.out
        rw [HO1.out, HE.out] at he
        simp only [Prod.mk.injEq] at he
        obtain ⟨e1, e2, e3⟩ := he
        have hjl : j ≤ rs.length := by rw [HN.out]; omega
        have hN3 : N3 = j := by rw [← HN3.out, ← e1, List.length_take]; omega
        subst e2 hN3
        have HE1 := Lib.hid e1
        clear e1 hjl
        by_cases hqP : q = P
        · have hy : y3 = 0 := by rw [← e3]; simp [trC, hqP]
          clear e3
          subst hy hqP
          go_wp2
          go_loopw [14] (fun i wr => ∃ t : Nat, t ≤ N3 ∧ i = .int .i64 t ∧ ∃ m, wr = w3.drewN m) (fun i _ => N3 - (intOf i).toNat)
          case atStart => exact ⟨0, Nat.zero_le _, rfl, 0, rfl⟩
          case round =>
            obtain ⟨t, ht, rfl, m, rfl⟩ := hrel
            by_cases hlt2 : t < N3
            · obtain ⟨b4, o4, B4, n4, c4, l4, hA4, _, hcell4, _, hr4, HX4, hm4⟩ := hL3.val hlt2
              obtain ⟨b5, o5, B5, n5, c5, l5, hA5, _, hcell5, _, hr5, HX5, hm5⟩ := hL1b.val (show t < N by omega)
              subst hA4
              cases hA5
              obtain rfl : l4 = l5 := by
                have h4 := HX4.out
                rw [← HE1.out, List.getElem?_take, if_pos hlt2, HX5.out] at h4
                injection h4 with h4
                exact h4.symm
              have hl4 := HQ2.out l4 hm5
              rw [hr4.len] at hl4
              obtain rfl : n4 = n5 := by rw [← hr4.len, hr5.len]
              go_wp2
              refine region_first [0, 1, 2, 3, 4, 5, 6, 7] (.cons 8 (seq [9] .nil)) (by kernel_rfl) (by kernel_rfl) ?_
              simp only [pick, List.map_cons, List.map_nil, List.getD_cons_zero, List.getD_cons_succ]
              go_wp2
              refine ord_call (by kernel_rfl) ?_
              simp only [pick, List.map_cons, List.map_nil, List.getD_cons_zero, List.getD_cons_succ]
              go_wp2_with fail
              refine (keep_sameBytes l4 l4 _ _ _ _ _ _ _ _ _ true (by exact hr4.heap rfl) (by exact hr5.heap rfl) (by simp) (by omega) (by omega)).mono ?_
              rintro e w4 ⟨rfl, m1, rfl⟩
              go_wp2
              refine ⟨fun _ _ => rfl, ?_⟩
              refine ord_more [9] .nil (by kernel_rfl) ?_
              simp only [pick, List.map_cons, List.map_nil, List.getD_cons_zero, List.getD_cons_succ]
              go_wp2
              refine ord_done ?_
              go_wp2
              go_roundw
              case rel => exact ⟨t + 1, by omega, by go_num, _, rfl⟩
              case measure => simp [intOf]; omega
            · have hbB : Below w.heap.size w (w3.drewN m) := hbA.drewN m
              generalize w3.drewN m = w4 at *
              go_wp2_with fail
              refine (file_Open [0, 0, 0, 0, 0, 1] _ _ _ _ (Rd.lit (n := 6) (s := 1) (cs := [Value.int .u8 0, .int .u8 0, .int .u8 0, .int .u8 0, .int .u8 0, .int .u8 1]) w4 _ rfl) (by simp) (by omega) (by omega)).mono ?_
              rintro e w5 ⟨A5, N5, k5, cs5, ls5, p5, y5, rfl, hrow5, hobs5, HO5, hb5⟩
              have hN5 := row_len hrow5 hobs5
              have he5 := HO5.out
              rw [opn_one] at he5
              simp only [Prod.mk.injEq] at he5
              obtain ⟨rfl, rfl, rfl⟩ := he5
              obtain rfl : N5 = 1 := hN5.symm
              clear HO5
              go_wp2
              go_ret
              have hbC : Below w.heap.size w w5 := (hbB.alloc hbB.size _).trans (hb5.mono (by simp; have := hbB.size; omega))
              exact ⟨ret_bool (by simp), hbC⟩
        · have hy : y3 = 5 := by rw [← e3]; simp [trC, hqP]
          clear e3
          have hqb : ((q : Int) == P) = false := by simp; omega
          subst hy
          go_wp2
          go_loopw [14] (fun i wr => ∃ t : Nat, t ≤ N3 ∧ i = .int .i64 t ∧ ∃ m, wr = w3.drewN m) (fun i _ => N3 - (intOf i).toNat)
          case atStart => exact ⟨0, Nat.zero_le _, rfl, 0, rfl⟩
          case round =>
            obtain ⟨t, ht, rfl, m, rfl⟩ := hrel
            by_cases hlt2 : t < N3
            · obtain ⟨b4, o4, B4, n4, c4, l4, hA4, _, hcell4, _, hr4, HX4, hm4⟩ := hL3.val hlt2
              obtain ⟨b5, o5, B5, n5, c5, l5, hA5, _, hcell5, _, hr5, HX5, hm5⟩ := hL1b.val (show t < N by omega)
              subst hA4
              cases hA5
              obtain rfl : l4 = l5 := by
                have h4 := HX4.out
                rw [← HE1.out, List.getElem?_take, if_pos hlt2, HX5.out] at h4
                injection h4 with h4
                exact h4.symm
              have hl4 := HQ2.out l4 hm5
              rw [hr4.len] at hl4
              obtain rfl : n4 = n5 := by rw [← hr4.len, hr5.len]
              go_wp2
              refine region_first [0, 1, 2, 3, 4, 5, 6, 7] (.cons 8 (seq [9] .nil)) (by kernel_rfl) (by kernel_rfl) ?_
              simp only [pick, List.map_cons, List.map_nil, List.getD_cons_zero, List.getD_cons_succ]
              go_wp2
              refine ord_call (by kernel_rfl) ?_
              simp only [pick, List.map_cons, List.map_nil, List.getD_cons_zero, List.getD_cons_succ]
              go_wp2_with fail
              refine (keep_sameBytes l4 l4 _ _ _ _ _ _ _ _ _ true (by exact hr4.heap rfl) (by exact hr5.heap rfl) (by simp) (by omega) (by omega)).mono ?_
              rintro e w4 ⟨rfl, m1, rfl⟩
              go_wp2
              refine ⟨fun _ _ => rfl, ?_⟩
              refine ord_more [9] .nil (by kernel_rfl) ?_
              simp only [pick, List.map_cons, List.map_nil, List.getD_cons_zero, List.getD_cons_succ]
              go_wp2
              refine ord_done ?_
              go_wp2
              go_roundw
              case rel => exact ⟨t + 1, by omega, by go_num, _, rfl⟩
              case measure => simp [intOf]; omega
            · have hbB : Below w.heap.size w (w3.drewN m) := hbA.drewN m
              generalize w3.drewN m = w4 at *
              go_wp2_with fail
              refine (file_Open [0, 0, 0, 0, 0, 1] _ _ _ _ (Rd.lit (n := 6) (s := 1) (cs := [Value.int .u8 0, .int .u8 0, .int .u8 0, .int .u8 0, .int .u8 0, .int .u8 1]) w4 _ rfl) (by simp) (by omega) (by omega)).mono ?_
              rintro e w5 ⟨A5, N5, k5, cs5, ls5, p5, y5, rfl, hrow5, hobs5, HO5, hb5⟩
              have hN5 := row_len hrow5 hobs5
              have he5 := HO5.out
              rw [opn_one] at he5
              simp only [Prod.mk.injEq] at he5
              obtain ⟨rfl, rfl, rfl⟩ := he5
              obtain rfl : N5 = 1 := hN5.symm
              clear HO5
              go_wp2
              go_ret
              have hbC : Below w.heap.size w w5 := (hbB.alloc hbB.size _).trans (hb5.mono (by simp; have := hbB.size; omega))
              exact ⟨ret_bool (by simp), hbC⟩
    · have HE := Lib.hid (HW.out.ended (by rw [HN.out]; omega))
      have he := HO3.out
      rw [HO1.out, HE.out] at he
      simp only [Prod.mk.injEq] at he
      obtain ⟨e1, e2, e3⟩ := he
      have hjl : j ≤ rs.length := by rw [HN.out]; omega
      have hN3 : N3 = j := by rw [← HN3.out, ← e1, List.length_take]; omega
      subst e2 hN3
      have HE1 := Lib.hid e1
      clear e1 hjl
      by_cases hqP : q = P
      · have hy : y3 = 0 := by rw [← e3]; simp [trC, hqP]
        clear e3
        subst hy hqP
        go_wp2
        go_loopw [14] (fun i wr => ∃ t : Nat, t ≤ N3 ∧ i = .int .i64 t ∧ ∃ m, wr = w3.drewN m) (fun i _ => N3 - (intOf i).toNat)
        case atStart => exact ⟨0, Nat.zero_le _, rfl, 0, rfl⟩
        case round =>
          obtain ⟨t, ht, rfl, m, rfl⟩ := hrel
          by_cases hlt2 : t < N3
          · obtain ⟨b4, o4, B4, n4, c4, l4, hA4, _, hcell4, _, hr4, HX4, hm4⟩ := hL3.val hlt2
            obtain ⟨b5, o5, B5, n5, c5, l5, hA5, _, hcell5, _, hr5, HX5, hm5⟩ := hL1b.val (show t < N by omega)
            subst hA4
            subst hA5
            obtain rfl : l4 = l5 := by
              have h4 := HX4.out
              rw [← HE1.out, List.getElem?_take, if_pos hlt2, HX5.out] at h4
              injection h4 with h4
              exact h4.symm
            have hl4 := HQ2.out l4 hm5
            rw [hr4.len] at hl4
            obtain rfl : n4 = n5 := by rw [← hr4.len, hr5.len]
            go_wp2
            refine region_first [0, 1, 2, 3, 4, 5, 6, 7] (.cons 8 (seq [9] .nil)) (by kernel_rfl) (by kernel_rfl) ?_
            simp only [pick, List.map_cons, List.map_nil, List.getD_cons_zero, List.getD_cons_succ]
            go_wp2
            refine ord_call (by kernel_rfl) ?_
            simp only [pick, List.map_cons, List.map_nil, List.getD_cons_zero, List.getD_cons_succ]
            go_wp2_with fail
            refine (keep_sameBytes l4 l4 _ _ _ _ _ _ _ _ _ true (by exact hr4.heap rfl) (by exact hr5.heap rfl) (by simp) (by omega) (by omega)).mono ?_
            rintro e w4 ⟨rfl, m1, rfl⟩
            go_wp2
            refine ⟨fun _ _ => rfl, ?_⟩
            refine ord_more [9] .nil (by kernel_rfl) ?_
            simp only [pick, List.map_cons, List.map_nil, List.getD_cons_zero, List.getD_cons_succ]
            go_wp2
            refine ord_done ?_
            go_wp2
            go_roundw
            case rel => exact ⟨t + 1, by omega, by go_num, _, rfl⟩
            case measure => simp [intOf]; omega
          · have hbB : Below w.heap.size w (w3.drewN m) := hbA.drewN m
            generalize w3.drewN m = w4 at *
            go_wp2_with fail
            refine (file_Open [0, 0, 0, 0, 0, 1] _ _ _ _ (Rd.lit (n := 6) (s := 1) (cs := [Value.int .u8 0, .int .u8 0, .int .u8 0, .int .u8 0, .int .u8 0, .int .u8 1]) w4 _ rfl) (by simp) (by omega) (by omega)).mono ?_
            rintro e w5 ⟨A5, N5, k5, cs5, ls5, p5, y5, rfl, hrow5, hobs5, HO5, hb5⟩
            have hN5 := row_len hrow5 hobs5
            have he5 := HO5.out
            rw [opn_one] at he5
            simp only [Prod.mk.injEq] at he5
            obtain ⟨rfl, rfl, rfl⟩ := he5
            obtain rfl : N5 = 1 := hN5.symm
            clear HO5
            go_wp2
            go_ret
            have hbC : Below w.heap.size w w5 := (hbB.alloc hbB.size _).trans (hb5.mono (by simp; have := hbB.size; omega))
            exact ⟨ret_bool (by simp), hbC⟩
      · have hy : y3 = 5 := by rw [← e3]; simp [trC, hqP]
        clear e3
        have hqb : ((q : Int) == P) = false := by simp; omega
        subst hy
        go_wp2
        go_loopw [14] (fun i wr => ∃ t : Nat, t ≤ N3 ∧ i = .int .i64 t ∧ ∃ m, wr = w3.drewN m) (fun i _ => N3 - (intOf i).toNat)
        case atStart => exact ⟨0, Nat.zero_le _, rfl, 0, rfl⟩
        case round =>
          obtain ⟨t, ht, rfl, m, rfl⟩ := hrel
          by_cases hlt2 : t < N3
          · obtain ⟨b4, o4, B4, n4, c4, l4, hA4, _, hcell4, _, hr4, HX4, hm4⟩ := hL3.val hlt2
            obtain ⟨b5, o5, B5, n5, c5, l5, hA5, _, hcell5, _, hr5, HX5, hm5⟩ := hL1b.val (show t < N by omega)
            subst hA4
            subst hA5
            obtain rfl : l4 = l5 := by
              have h4 := HX4.out
              rw [← HE1.out, List.getElem?_take, if_pos hlt2, HX5.out] at h4
              injection h4 with h4
              exact h4.symm
            have hl4 := HQ2.out l4 hm5
            rw [hr4.len] at hl4
            obtain rfl : n4 = n5 := by rw [← hr4.len, hr5.len]
            go_wp2
            refine region_first [0, 1, 2, 3, 4, 5, 6, 7] (.cons 8 (seq [9] .nil)) (by kernel_rfl) (by kernel_rfl) ?_
            simp only [pick, List.map_cons, List.map_nil, List.getD_cons_zero, List.getD_cons_succ]
            go_wp2
            refine ord_call (by kernel_rfl) ?_
            simp only [pick, List.map_cons, List.map_nil, List.getD_cons_zero, List.getD_cons_succ]
            go_wp2_with fail
            refine (keep_sameBytes l4 l4 _ _ _ _ _ _ _ _ _ true (by exact hr4.heap rfl) (by exact hr5.heap rfl) (by simp) (by omega) (by omega)).mono ?_
            rintro e w4 ⟨rfl, m1, rfl⟩
            go_wp2
            refine ⟨fun _ _ => rfl, ?_⟩
            refine ord_more [9] .nil (by kernel_rfl) ?_
            simp only [pick, List.map_cons, List.map_nil, List.getD_cons_zero, List.getD_cons_succ]
            go_wp2
            refine ord_done ?_
            go_wp2
            go_roundw
            case rel => exact ⟨t + 1, by omega, by go_num, _, rfl⟩
            case measure => simp [intOf]; omega
          · have hbB : Below w.heap.size w (w3.drewN m) := hbA.drewN m
            generalize w3.drewN m = w4 at *
            go_wp2_with fail
            refine (file_Open [0, 0, 0, 0, 0, 1] _ _ _ _ (Rd.lit (n := 6) (s := 1) (cs := [Value.int .u8 0, .int .u8 0, .int .u8 0, .int .u8 0, .int .u8 0, .int .u8 1]) w4 _ rfl) (by simp) (by omega) (by omega)).mono ?_
            rintro e w5 ⟨A5, N5, k5, cs5, ls5, p5, y5, rfl, hrow5, hobs5, HO5, hb5⟩
            have hN5 := row_len hrow5 hobs5
            have he5 := HO5.out
            rw [opn_one] at he5
            simp only [Prod.mk.injEq] at he5
            obtain ⟨rfl, rfl, rfl⟩ := he5
            obtain rfl : N5 = 1 := hN5.symm
            clear HO5
            go_wp2
            go_ret
            have hbC : Below w.heap.size w w5 := (hbB.alloc hbB.size _).trans (hb5.mono (by simp; have := hbB.size; omega))
            exact ⟨ret_bool (by simp), hbC⟩

theorem own_FileTorn : ownKnob Try.prog.godebug = none := by kernel_rfl
theorem laid_FileTorn : laidOutB Try.prog = true := by kernel_rfl
set_option maxRecDepth 100000 in
theorem lifted_FileTorn (os : Os) (started : os.Started) (H : Type) (enc : TypeId × Value → H) :
    ReturnsInHanded {} Try.checked os 6 .any (Rows.fileTornSpec.pre6 enc Try.prog Try.f6 Rows.fileTornRow.domain false) (Rows.fileTornSpec.post enc Try.prog Try.f6 false true false false) := by
  refine returnsInHanded_of_change_sized (C := Try.checked) own_FileTorn started (by kernel_rfl) Try.func6
    (ChangeSpec.witness6 (enc := enc) (C := Try.checked) false ⟨#[], #[.slice none 0 0, .int .i64 0], []⟩ 8 (by kernel_rfl) (by kernel_rfl) (by kernel_rfl) (by kernel_rfl)) ?_
  intro W base args ds gs before hval0 hW hcnd hsz0 _
  have hsz : (DataW.weightsEach Try.prog (Try.f6.params.toList ++ Rows.fileTornSpec.plain.varTypes Try.prog) (ds ++ gs)).all (· ≤ reachBytes) = true := hsz0
  clear hsz0
  have hval : ∀ (j : Nat) t v, Try.f6.params[j]? = some t → args[j]? = some v → Value.okWide Try.prog W .any base t v := hval0
  have hW' := hW
  obtain ⟨p, q, hA0, hV, rfl, hfz, hnd⟩ := hW
  have hA : DataW.TrodAll enc Try.prog W 0 (fun _ => true) true Try.f6.params.toList args.toList ds p := hA0
  rw [Try.params6] at hA hval hsz
  obtain ⟨v0, vs0, d0, ds0, p0, q0, hargs, rfl, rfl, h0, r0⟩ := trodAll_cons hA
  obtain ⟨v1, vs1, d1, ds1, p1, q1, rfl, rfl, rfl, h1, r1⟩ := trodAll_cons r0
  obtain ⟨rfl, rfl, rfl⟩ := trodAll_nil r1
  obtain rfl : args = #[v0, v1] := by cases args; simp_all
  obtain ⟨rfl, rfl⟩ := trodVars_none hV
  have k0 := h0
  have lt0 : ∀ x ∈ p0, x.block < W.heap.size := by obtain ⟨m, hm⟩ := k0; exact DataW.trod_lt m _ _ _ hm
  obtain ⟨a0, len0, cap0, rfl⟩ := okWide_slice Try.underlying28 (hval 0 28 v0 rfl rfl)
  obtain ⟨x0, ri0, rr0, lc0, hd0⟩ := open_RL Try.underlying28 Try.underlying22 Try.underlying5 (by kernel_rfl) (by kernel_rfl) h0
  have bd0 : len0 ≤ 5864062014805 := by
    rcases hd0 with ⟨h, _⟩ | ⟨el, sp, hd, hl⟩
    · omega
    · subst hd
      have := sized_slice hsz (j := 0) (t := 28) (e := 22) rfl rfl Try.underlying28
      rw [show Try.prog.bytesOf 22 = 24 by kernel_rfl] at this
      simp only [reachBytes] at this
      omega
  have k1 := h1
  have lt1 : ∀ x ∈ p1, x.block < W.heap.size := by obtain ⟨m, hm⟩ := k1; exact DataW.trod_lt m _ _ _ hm
  obtain ⟨x1, rfl, rfl, rfl, wx1⟩ := open_int Try.underlying3 (hval 1 3 v1 rfl rfl) h1
  have rr1 := bounds_i64 wx1
  clear hA0 hval0 hsz
  refine (keep_FileTorn W a0 len0 cap0 x0 ri0 bd0 rr0 lc0 x1 rr1).mono fun e W' ⟨he, bel⟩ => ?_
  subst he
  exact ⟨_, rfl, _, _, _, [], _, [], hW', trodAll_mk1 (shut_bool Try.underlying4 _), (trodAll_cons_mk (Below.trod laid_FileTorn (by kernel_rfl) (of_decide_eq_true (by kernel_rfl)) k0 bel lt0) (trodAll_cons_mk (Below.trod laid_FileTorn (by kernel_rfl) (of_decide_eq_true (by kernel_rfl)) k1 bel lt1) trodAll_mk0)), rfl, bel.frame _, fun h => by cases h⟩

theorem fileTorn_holds : Rows.FileTornSaid :=
  OpenClaim.holds_of_wide 6 Try.f6 rfl rfl rfl rfl rfl rfl rfl ⟨rfl, rfl, rfl, rfl, rfl⟩ rfl rfl rfl rfl rfl (by kernel_rfl) Try.func6 (by kernel_rfl)
    (of_decide_eq_true (by kernel_rfl)) (by unfold Func.isWrapper; first | (rw [if_pos (by decide +kernel)]; kernel_rfl) | (rw [if_neg (by decide +kernel)]; exact ⟨rfl, rfl⟩))
    (fun os started H enc _ => lifted_FileTorn os started H enc)
#print axioms fileTorn_holds
end Go.Proofs.Ytpgjjndmbkkhiaa
