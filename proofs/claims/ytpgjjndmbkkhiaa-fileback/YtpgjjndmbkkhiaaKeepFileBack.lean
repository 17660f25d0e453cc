/- Opening a file returns all of its records in order: the law's call returns true, for every input, and leaves what was there as it was. No condition but that each slice takes at most 2^47 - 4096 bytes. -/
import Derived.Test.YtpgjjndmbkkhiaaKeepFileOf
import Derived.Test.YtpgjjndmbkkhiaaSameBytesK
set_option linter.unusedSimpArgs false
set_option linter.unusedVariables false
namespace Go.Proofs.Ytpgjjndmbkkhiaa
open Go.ChangeShapes Go.WideShapes Go.ChangeAt Go.RowKit Go.Ord Go.Baro

set_option maxRecDepth 100000 in
set_option maxHeartbeats 1000000 in
theorem keep_FileBack (w : World) (A0 : Option Addr) (n0 c0 : Nat) (x0 : List (List Int)) (h0 : RL w w.heap.size A0 n0 x0) (b0 : n0 ≤ 5864062014805) (r0 : ∀ l ∈ x0, l.length ≤ 9223372036854775807 ∧ ∀ y ∈ l, 0 ≤ y ∧ y < 256) (l0 : n0 ≤ c0) :
    Calls Try.prog 5 #[.slice A0 n0 c0] w fun e w' => e = .returned (.bool true) ∧ Below w.heap.size w w' := by
  obtain ⟨q1, q2, q3, q4, q5⟩ := trim_ok 60 r0
  obtain ⟨rs, hrs⟩ : ∃ rs, rs = trim x0 60 := ⟨_, rfl⟩
  rw [← hrs] at q1 q2 q3 q4 q5
  have HRS := Lib.hid hrs
  have HQ2 := Lib.hid q2
  have HQ3 := Lib.hid q3
  have HO := Lib.hid (opn_fl rs q2 (by omega))
  have HR := Lib.hid r0
  clear hrs q1 q2 q3 r0
  go_enter Try.func5, Try.ntmps5
  go_wp2_with fail
  refine (keep_FileOf x0 _ _ _ 60 _ h0 HR.out (by omega) (by omega)).mono ?_
  rintro e w1 ⟨V, M, k1, A1, N, k2, cs, rfl, hv1, hrow1, hobs1, hb1⟩
  rw [← HRS.out] at hv1 hobs1
  have HM := Lib.hid (own_len hv1)
  have HN := Lib.hid (row_len hrow1 hobs1)
  have hM : M ≤ 6360 := by rw [HM.out]; omega
  have hN : N ≤ 60 := by rw [← HN.out]; omega
  clear q4 q5
  have hf1 : RI w1 w1.heap.size .u8 V M (flL rs) := Rd.of_own hv1
  have hL1 : RL w1 w1.heap.size A1 N rs := hobs1.rl hrow1
  clear hv1 hrow1 hobs1
  go_wp2_with (at_builtin; go_must (refine app_src eltOct w1 rfl _ _ rfl w1.heap.size _ 0 [] rfl (World.ownsRow_nil _ _ _ _) _ _ _ ((flL rs).map (Value.int .u8)) (by rfl) _ (by exact hf1) (one_ints _ _) (by omega) (by omega) (Nat.le_refl _) ?_); intro v2 w2 hv2 _ hbel2 _; rw [List.nil_append, Nat.zero_add] at hv2; obtain ⟨V2, c2, rfl, hc2⟩ := own_form hv2; have hb2 : Below w1.heap.size w1 w2 := hbel2 w1 (Below.refl _ _))
  refine (file_Open (flL rs) _ _ _ _ (Rd.of_own hv2) HQ3.out (by omega) hc2).mono ?_
  rintro e w3 ⟨A3, N3, k3, cs3, ls3, p3, y3, rfl, hrow3, hobs3, HO3, hb3⟩
  have he := HO3.out
  rw [HO.out, Prod.mk.injEq, Prod.mk.injEq] at he
  obtain ⟨rfl, rfl, rfl⟩ := he
  have hN3 := row_len hrow3 hobs3
  rw [HN.out] at hN3
  subst hN3
  have hb13 : Below w1.heap.size w1 w3 := hb2.trans (hb3.mono hb2.size)
  have hL3 : RL w3 w3.heap.size A3 N rs := hobs3.rl hrow3
  have hL1b : RL w3 w3.heap.size A1 N rs := (hL1.below hb13).more hb13.size
  have hbA : Below w.heap.size w w3 := hb1.trans (hb13.mono hb1.size)
  clear hrow3 hobs3 hL1 hf1 hv2 hbel2 hb2 hb3 hb13 hb1 HO HO3
  rw [← HM.out]
  have HN1 := Lib.hid (rc_in (l := []) (by simp))
  go_wp2
  go_loopw [9] (fun i wr => ∃ j : Nat, j ≤ N ∧ i = .int .i64 j ∧ ∃ m, wr = w3.drewN m) (fun i _ => N - (intOf i).toNat)
  case atStart => exact ⟨0, Nat.zero_le _, rfl, 0, rfl⟩
  case round =>
    obtain ⟨j, hj, rfl, m, rfl⟩ := hrel
    by_cases hlt : j < N
    · obtain ⟨b, o, B1, n1, c1, l1, rfl, _, hcell, _, hr1, HX, hm1⟩ := hL3.val hlt
      obtain ⟨b', o', B2, n2, c2, l2, rfl, _, hcell', _, hr2, HY, _⟩ := hL1b.val hlt
      obtain rfl : l1 = l2 := by have := HX.out; rw [HY.out] at this; injection this with this; exact this.symm
      have hl1 := HQ2.out l1 hm1
      rw [hr1.len] at hl1
      obtain rfl : n1 = n2 := by rw [← hr1.len, hr2.len]
      go_wp2
      refine region_first [0, 1, 2, 3, 4, 5, 6, 7] (.cons 8 (seq [9] .nil)) (by kernel_rfl) (by kernel_rfl) ?_
      simp only [pick, List.map_cons, List.map_nil, List.getD_cons_zero, List.getD_cons_succ]
      go_wp2
      refine ord_call (by kernel_rfl) ?_
      simp only [pick, List.map_cons, List.map_nil, List.getD_cons_zero, List.getD_cons_succ]
      go_wp2_with fail
      refine (keep_sameBytes l1 l1 _ _ _ _ _ _ _ _ _ true (by exact hr1.heap rfl) (by exact hr2.heap rfl) (by simp) (by omega) (by omega)).mono ?_
      rintro e w4 ⟨rfl, m1, rfl⟩
      go_wp2
      refine ⟨fun _ _ => rfl, ?_⟩
      refine ord_more [9] .nil (by kernel_rfl) ?_
      simp only [pick, List.map_cons, List.map_nil, List.getD_cons_zero, List.getD_cons_succ]
      go_wp2
      refine ord_done ?_
      go_wp2
      go_roundw
      case rel => exact ⟨j + 1, by omega, by go_num, _, rfl⟩
      case measure => simp [intOf]; omega
    · have hbB : Below w.heap.size w (w3.drewN m) := hbA.drewN m
      generalize w3.drewN m = w4 at *
      go_wp2_with fail
      refine (file_Record [] _ _ _ _ (RI.nil _ _ _ _) (by simp) (by omega)).mono ?_
      rintro e w5 ⟨v5, N5, rfl, hv5, hb5⟩
      rw [HN1.out.1] at hv5
      rw [HN1.out.2]
      obtain rfl : N5 = 6 := own_len hv5
      obtain ⟨A5, k5, rfl, _⟩ := own_form hv5
      go_wp2
      go_ret
      exact ⟨ret_bool (by simp), hbB.trans (hb5.mono hbB.size)⟩

theorem own_FileBack : ownKnob Try.prog.godebug = none := by kernel_rfl
theorem laid_FileBack : laidOutB Try.prog = true := by kernel_rfl
set_option maxRecDepth 100000 in
theorem lifted_FileBack (os : Os) (started : os.Started) (H : Type) (enc : TypeId × Value → H) :
    ReturnsInHanded {} Try.checked os 5 .any (Rows.fileBackSpec.pre6 enc Try.prog Try.f5 Rows.fileBackRow.domain false) (Rows.fileBackSpec.post enc Try.prog Try.f5 false true false false) := by
  refine returnsInHanded_of_change_sized (C := Try.checked) own_FileBack started (by kernel_rfl) Try.func5
    (ChangeSpec.witness6 (enc := enc) (C := Try.checked) false ⟨#[], #[.slice none 0 0], []⟩ 8 (by kernel_rfl) (by kernel_rfl) (by kernel_rfl) (by kernel_rfl)) ?_
  intro W base args ds gs before hval0 hW hcnd hsz0 _
  have hsz : (DataW.weightsEach Try.prog (Try.f5.params.toList ++ Rows.fileBackSpec.plain.varTypes Try.prog) (ds ++ gs)).all (· ≤ reachBytes) = true := hsz0
  clear hsz0
  have hval : ∀ (j : Nat) t v, Try.f5.params[j]? = some t → args[j]? = some v → Value.okWide Try.prog W .any base t v := hval0
  have hW' := hW
  obtain ⟨p, q, hA0, hV, rfl, hfz, hnd⟩ := hW
  have hA : DataW.TrodAll enc Try.prog W 0 (fun _ => true) true Try.f5.params.toList args.toList ds p := hA0
  rw [Try.params5] at hA hval hsz
  obtain ⟨v0, vs0, d0, ds0, p0, q0, hargs, rfl, rfl, h0, r0⟩ := trodAll_cons hA
  obtain ⟨rfl, rfl, rfl⟩ := trodAll_nil r0
  obtain rfl : args = #[v0] := by cases args; simp_all
  obtain ⟨rfl, rfl⟩ := trodVars_none hV
  have k0 := h0
  have lt0 : ∀ x ∈ p0, x.block < W.heap.size := by obtain ⟨m, hm⟩ := k0; exact DataW.trod_lt m _ _ _ hm
  obtain ⟨a0, len0, cap0, rfl⟩ := okWide_slice Try.underlying28 (hval 0 28 v0 rfl rfl)
  obtain ⟨x0, ri0, rr0, lc0, hd0⟩ := open_RL Try.underlying28 Try.underlying22 Try.underlying5 (by kernel_rfl) (by kernel_rfl) h0
  have bd0 : len0 ≤ 5864062014805 := by
    rcases hd0 with ⟨h, _⟩ | ⟨el, sp, hd, hl⟩
    · omega
    · subst hd
      have := sized_slice hsz (j := 0) (t := 28) (e := 22) rfl rfl Try.underlying28
      rw [show Try.prog.bytesOf 22 = 24 by kernel_rfl] at this
      simp only [reachBytes] at this
      omega
  clear hA0 hval0 hsz
  refine (keep_FileBack W a0 len0 cap0 x0 ri0 bd0 rr0 lc0).mono fun e W' ⟨he, bel⟩ => ?_
  subst he
  exact ⟨_, rfl, _, _, _, [], _, [], hW', trodAll_mk1 (shut_bool Try.underlying4 _), (trodAll_cons_mk (Below.trod laid_FileBack (by kernel_rfl) (of_decide_eq_true (by kernel_rfl)) k0 bel lt0) trodAll_mk0), rfl, bel.frame _, fun h => by cases h⟩

theorem fileBack_holds : Rows.FileBackSaid :=
  OpenClaim.holds_of_wide 5 Try.f5 rfl rfl rfl rfl rfl rfl rfl ⟨rfl, rfl, rfl, rfl, rfl⟩ rfl rfl rfl rfl rfl (by kernel_rfl) Try.func5 (by kernel_rfl)
    (of_decide_eq_true (by kernel_rfl)) (by unfold Func.isWrapper; first | (rw [if_pos (by decide +kernel)]; kernel_rfl) | (rw [if_neg (by decide +kernel)]; exact ⟨rfl, rfl⟩))
    (fun os started H enc _ => lifted_FileBack os started H enc)
#print axioms fileBack_holds
end Go.Proofs.Ytpgjjndmbkkhiaa
