/- The concatenation of two files is a file with the records of both: the law's call returns true, for every input, and leaves what was there as it was. No condition but that each slice takes at most 2^47 - 4096 bytes. -/
import Derived.Test.YtpgjjndmbkkhiaaKeepFileOf
import Derived.Test.YtpgjjndmbkkhiaaSameBytesK
set_option linter.unusedSimpArgs false
set_option linter.unusedVariables false
namespace Go.Proofs.Ytpgjjndmbkkhiaa
open Go.ChangeShapes Go.WideShapes Go.ChangeAt Go.RowKit Go.Ord Go.Baro

set_option maxRecDepth 100000 in
set_option maxHeartbeats 1000000 in
theorem keep_FileMore (w : World) (A0 : Option Addr) (n0 c0 : Nat) (x0 : List (List Int)) (h0 : RL w w.heap.size A0 n0 x0) (b0 : n0 ≤ 5864062014805) (r0 : ∀ l ∈ x0, l.length ≤ 9223372036854775807 ∧ ∀ y ∈ l, 0 ≤ y ∧ y < 256) (l0 : n0 ≤ c0)
    (A1 : Option Addr) (n1 c1 : Nat) (x1 : List (List Int)) (h1 : RL w w.heap.size A1 n1 x1) (b1 : n1 ≤ 5864062014805) (r1 : ∀ l ∈ x1, l.length ≤ 9223372036854775807 ∧ ∀ y ∈ l, 0 ≤ y ∧ y < 256) (l1 : n1 ≤ c1) :
    Calls Try.prog 8 #[.slice A0 n0 c0, .slice A1 n1 c1] w fun e w' => e = .returned (.bool true) ∧ Below w.heap.size w w' := by
  obtain ⟨q1, q2, q3, q4, q5⟩ := trim_ok 40 r0
  obtain ⟨p1, p2, p3, p4, p5⟩ := trim_ok 40 r1
  obtain ⟨rs, hrs⟩ : ∃ rs, rs = trim x0 40 := ⟨_, rfl⟩
  obtain ⟨qs, hqs⟩ : ∃ qs, qs = trim x1 40 := ⟨_, rfl⟩
  rw [← hrs] at q1 q2 q3 q4 q5
  rw [← hqs] at p1 p2 p3 p4 p5
  have HRS := Lib.hid hrs
  have HQS := Lib.hid hqs
  have q2' : ∀ l ∈ rs ++ qs, l.length ≤ 4000 := fun l hl => (List.mem_append.1 hl).elim (q2 l) (p2 l)
  have HQ2 := Lib.hid q2'
  have HQ3 : Hid (∀ x ∈ flL rs ++ flL qs, 0 ≤ x ∧ x < 256) := Lib.hid (fun x hx => (List.mem_append.1 hx).elim (q3 x) (p3 x))
  have ho := opn_fl (rs ++ qs) q2' (by rw [List.length_append]; omega)
  rw [flL_append] at ho
  have HO := Lib.hid ho
  have HR0 := Lib.hid r0
  have HR1 := Lib.hid r1
  clear hrs hqs q1 q2 q3 p1 p2 p3 r0 r1 q2' ho
  go_enter Try.func8, Try.ntmps8
  go_wp2_with fail
  refine (keep_FileOf x0 _ _ _ 40 _ h0 HR0.out (by omega) (by omega)).mono ?_
  rintro e w1 ⟨V, M, k1, B1, N, k2, cs, rfl, hv1, hrow1, hobs1, hb1⟩
  rw [← HRS.out] at hv1 hobs1
  have HM := Lib.hid (own_len hv1)
  have HN := Lib.hid (row_len hrow1 hobs1)
  have hM : M ≤ 4240 := by rw [HM.out]; omega
  have hN : N ≤ 40 := by rw [← HN.out]; omega
  have hf1 : RI w1 w1.heap.size .u8 V M (flL rs) := Rd.of_own hv1
  have hL1 : RL w1 w1.heap.size B1 N rs := hobs1.rl hrow1
  clear hv1 hrow1 hobs1 q4 q5
  go_wp2_with fail
  refine (keep_FileOf x1 _ _ _ 40 _ ((h1.below hb1).more hb1.size) HR1.out (by omega) (by omega)).mono ?_
  rintro e w2 ⟨V2, M2, j1, B2, N2, j2, cs2, rfl, hv2, hrow2, hobs2, hb2⟩
  rw [← HQS.out] at hv2 hobs2
  have HM2 := Lib.hid (own_len hv2)
  have HN2 := Lib.hid (row_len hrow2 hobs2)
  have hM2 : M2 ≤ 4240 := by rw [HM2.out]; omega
  have hN2 : N2 ≤ 40 := by rw [← HN2.out]; omega
  have hf2 : RI w2 w2.heap.size .u8 V2 M2 (flL qs) := Rd.of_own hv2
  have hL2 : RL w2 w2.heap.size B2 N2 qs := hobs2.rl hrow2
  have hf1b := (hf1.below hb2).more hb2.size
  have hL1b := (hL1.below hb2).more hb2.size
  have hbA : Below w.heap.size w w2 := hb1.trans (hb2.mono hb1.size)
  clear hv2 hrow2 hobs2 p4 p5 hf1 hL1 hb1 hb2
  go_wp2_with (first
    | (at_builtin; refine app_src eltOct w2 rfl (.const (.slice none 0 0)) (.tmp 31) rfl w2.heap.size _ 0 [] rfl (World.ownsRow_nil _ _ _ _) _ _ _ ((flL rs).map (Value.int .u8)) (by rfl) _ (by exact hf1b) (one_ints _ _) (by omega) (by omega) (Nat.le_refl _) ?_; intro v3 w3 hv3 _ hbel3 hsz3; rw [List.nil_append, Nat.zero_add] at hv3)
    | (at_builtin; refine app_src eltOct w3 rfl (.tmp 32) (.tmp 33) rfl w2.heap.size _ _ _ rfl (by exact hv3) _ _ _ ((flL qs).map (Value.int .u8)) (by rfl) _ (by exact RI.below hf2 (hbel3 w2 (Below.refl _ _))) (one_ints _ _) (by omega) (by omega) hsz3 ?_; intro v4 w4 hv4 _ hbel4 hsz4; obtain ⟨V4, c4, rfl, hc4⟩ := own_form hv4; have hb4 : Below w2.heap.size w2 w4 := hbel4 w2 (hbel3 w2 (Below.refl _ _))))
  rw [← List.map_append] at hv4
  refine (file_Open (flL rs ++ flL qs) _ _ _ _ (Rd.of_own hv4) HQ3.out (by omega) hc4).mono ?_
  rintro e w5 ⟨A5, N5, k5, cs5, ls5, p5, y5, rfl, hrow5, hobs5, HO5, hb5⟩
  have he := HO5.out
  rw [HO.out, Prod.mk.injEq, Prod.mk.injEq] at he
  obtain ⟨rfl, e2, rfl⟩ := he
  have e3 : p5 = M + M2 := by rw [← e2, List.length_append, HM.out, HM2.out]
  have e4 : N5 = N + N2 := by rw [← row_len hrow5 hobs5, List.length_append, HN.out, HN2.out]
  clear e2
  subst e3 e4
  have hb25 : Below w2.heap.size w2 w5 := hb4.trans (hb5.mono hb4.size)
  have hL5 : RL w5 w5.heap.size A5 (N + N2) (rs ++ qs) := hobs5.rl hrow5
  have hLa : RL w5 w5.heap.size B1 N rs := (hL1b.below hb25).more hb25.size
  have hLb : RL w5 w5.heap.size B2 N2 qs := (hL2.below hb25).more hb25.size
  have hbB : Below w.heap.size w w5 := hbA.trans (hb25.mono hbA.size)
  clear hrow5 hobs5 hL1b hL2 hf1b hf2 hv3 hv4 hbel3 hbel4 hb4 hb5 hb25 hbA HO HO5
  have HN1 := Lib.hid (rc_in (l := [1]) (by simp))
  go_wp2
  go_loopw [14] (fun i wr => ∃ j : Nat, j ≤ N + N2 ∧ i = .int .i64 j ∧ ∃ m, wr = w5.drewN m) (fun i _ => N + N2 - (intOf i).toNat)
  case atStart => exact ⟨0, Nat.zero_le _, rfl, 0, rfl⟩
  case round =>
    obtain ⟨j, hj, rfl, m, rfl⟩ := hrel
    by_cases hlt : j < N + N2
    · obtain ⟨b, o, D1, m1, d1, l1, rfl, _, hcell, _, hr1, HX, hm1⟩ := hL5.val hlt
      have hl1 := HQ2.out l1 hm1
      rw [hr1.len] at hl1
      by_cases hjN : j < N
      · obtain ⟨b', o', D2, m2, d2, l2, rfl, _, hcell', _, hr2, HY, _⟩ := hLa.val hjN
        obtain rfl : l1 = l2 := by have := HX.out; rw [List.getElem?_append_left (by rw [HN.out]; exact hjN), HY.out] at this; injection this with this; exact this.symm
        obtain rfl : m1 = m2 := by rw [← hr1.len, hr2.len]
        go_wp2_with fail
        refine (keep_sameBytes l1 l1 _ _ _ _ _ _ _ _ _ true (by exact hr1.heap rfl) (by exact hr2.heap rfl) (by simp) (by omega) (by omega)).mono ?_
        rintro e w6 ⟨rfl, m3, rfl⟩
        go_wp2
        go_roundw
        case rel => exact ⟨j + 1, by omega, by go_num, _, rfl⟩
        case measure => simp [intOf]; omega
      · obtain ⟨b', o', D2, m2, d2, l2, rfl, _, hcell', _, hr2, HY, _⟩ := hLb.val (show j - N < N2 by omega)
        obtain rfl : l1 = l2 := by have := HX.out; rw [List.getElem?_append_right (by rw [HN.out]; omega), HN.out, HY.out] at this; injection this with this; exact this.symm
        obtain rfl : m1 = m2 := by rw [← hr1.len, hr2.len]
        obtain ⟨t, rfl⟩ : ∃ t, j = N + t := ⟨j - N, by omega⟩
        rw [Nat.add_sub_cancel_left] at hcell'
        go_wp2_with fail
        refine (keep_sameBytes l1 l1 _ _ _ _ _ _ _ _ _ true (by exact hr1.heap rfl) (by exact hr2.heap rfl) (by simp) (by omega) (by omega)).mono ?_
        rintro e w6 ⟨rfl, m3, rfl⟩
        go_wp2
        go_roundw
        case rel => exact ⟨N + t + 1, by omega, by go_num, _, rfl⟩
        case measure => simp [intOf]; omega
    · have hbC : Below w.heap.size w (w5.drewN m) := hbB.drewN m
      generalize w5.drewN m = w6 at *
      go_wp2_with fail
      refine (file_Record [1] _ _ _ _ (Rd.lit (n := 1) (s := 1) (cs := [Value.int .u8 1]) w6 _ rfl) (by simp) (by omega)).mono ?_
      rintro e w7 ⟨v7, N7, rfl, hv7, hb7⟩
      rw [HN1.out.1] at hv7
      rw [HN1.out.2]
      obtain rfl : N7 = 7 := own_len hv7
      obtain ⟨A7, k7, rfl, _⟩ := own_form hv7
      go_wp2
      go_ret
      exact ⟨ret_bool (by simp), (hbC.alloc hbC.size _).trans (hb7.mono (by simp; have := hbC.size; omega))⟩

theorem own_FileMore : ownKnob Try.prog.godebug = none := by kernel_rfl
theorem laid_FileMore : laidOutB Try.prog = true := by kernel_rfl
set_option maxRecDepth 100000 in
theorem lifted_FileMore (os : Os) (started : os.Started) (H : Type) (enc : TypeId × Value → H) :
    ReturnsInHanded {} Try.checked os 8 .any (Rows.fileMoreSpec.pre6 enc Try.prog Try.f8 Rows.fileMoreRow.domain false) (Rows.fileMoreSpec.post enc Try.prog Try.f8 false true false false) := by
  refine returnsInHanded_of_change_sized (C := Try.checked) own_FileMore started (by kernel_rfl) Try.func8
    (ChangeSpec.witness6 (enc := enc) (C := Try.checked) false ⟨#[], #[.slice none 0 0, .slice none 0 0], []⟩ 8 (by kernel_rfl) (by kernel_rfl) (by kernel_rfl) (by kernel_rfl)) ?_
  intro W base args ds gs before hval0 hW hcnd hsz0 _
  have hsz : (DataW.weightsEach Try.prog (Try.f8.params.toList ++ Rows.fileMoreSpec.plain.varTypes Try.prog) (ds ++ gs)).all (· ≤ reachBytes) = true := hsz0
  clear hsz0
  have hval : ∀ (j : Nat) t v, Try.f8.params[j]? = some t → args[j]? = some v → Value.okWide Try.prog W .any base t v := hval0
  have hW' := hW
  obtain ⟨p, q, hA0, hV, rfl, hfz, hnd⟩ := hW
  have hA : DataW.TrodAll enc Try.prog W 0 (fun _ => true) true Try.f8.params.toList args.toList ds p := hA0
  rw [Try.params8] at hA hval hsz
  obtain ⟨v0, vs0, d0, ds0, p0, q0, hargs, rfl, rfl, h0, r0⟩ := trodAll_cons hA
  obtain ⟨v1, vs1, d1, ds1, p1, q1, rfl, rfl, rfl, h1, r1⟩ := trodAll_cons r0
  obtain ⟨rfl, rfl, rfl⟩ := trodAll_nil r1
  obtain rfl : args = #[v0, v1] := by cases args; simp_all
  obtain ⟨rfl, rfl⟩ := trodVars_none hV
  have k0 := h0
  have lt0 : ∀ x ∈ p0, x.block < W.heap.size := by obtain ⟨m, hm⟩ := k0; exact DataW.trod_lt m _ _ _ hm
  obtain ⟨a0, len0, cap0, rfl⟩ := okWide_slice Try.underlying28 (hval 0 28 v0 rfl rfl)
  obtain ⟨x0, ri0, rr0, lc0, hd0⟩ := open_RL Try.underlying28 Try.underlying22 Try.underlying5 (by kernel_rfl) (by kernel_rfl) h0
  have bd0 : len0 ≤ 5864062014805 := by
    rcases hd0 with ⟨h, _⟩ | ⟨el, sp, hd, hl⟩
    · omega
    · subst hd
      have := sized_slice hsz (j := 0) (t := 28) (e := 22) rfl rfl Try.underlying28
      rw [show Try.prog.bytesOf 22 = 24 by kernel_rfl] at this
      simp only [reachBytes] at this
      omega
  have k1 := h1
  have lt1 : ∀ x ∈ p1, x.block < W.heap.size := by obtain ⟨m, hm⟩ := k1; exact DataW.trod_lt m _ _ _ hm
  obtain ⟨a1, len1, cap1, rfl⟩ := okWide_slice Try.underlying28 (hval 1 28 v1 rfl rfl)
  obtain ⟨x1, ri1, rr1, lc1, hd1⟩ := open_RL Try.underlying28 Try.underlying22 Try.underlying5 (by kernel_rfl) (by kernel_rfl) h1
  have bd1 : len1 ≤ 5864062014805 := by
    rcases hd1 with ⟨h, _⟩ | ⟨el, sp, hd, hl⟩
    · omega
    · subst hd
      have := sized_slice hsz (j := 1) (t := 28) (e := 22) rfl rfl Try.underlying28
      rw [show Try.prog.bytesOf 22 = 24 by kernel_rfl] at this
      simp only [reachBytes] at this
      omega
  clear hA0 hval0 hsz
  refine (keep_FileMore W a0 len0 cap0 x0 ri0 bd0 rr0 lc0 a1 len1 cap1 x1 ri1 bd1 rr1 lc1).mono fun e W' ⟨he, bel⟩ => ?_
  subst he
  exact ⟨_, rfl, _, _, _, [], _, [], hW', trodAll_mk1 (shut_bool Try.underlying4 _), (trodAll_cons_mk (Below.trod laid_FileMore (by kernel_rfl) (of_decide_eq_true (by kernel_rfl)) k0 bel lt0) (trodAll_cons_mk (Below.trod laid_FileMore (by kernel_rfl) (of_decide_eq_true (by kernel_rfl)) k1 bel lt1) trodAll_mk0)), rfl, bel.frame _, fun h => by cases h⟩

theorem fileMore_holds : Rows.FileMoreSaid :=
  OpenClaim.holds_of_wide 8 Try.f8 rfl rfl rfl rfl rfl rfl rfl ⟨rfl, rfl, rfl, rfl, rfl⟩ rfl rfl rfl rfl rfl (by kernel_rfl) Try.func8 (by kernel_rfl)
    (of_decide_eq_true (by kernel_rfl)) (by unfold Func.isWrapper; first | (rw [if_pos (by decide +kernel)]; kernel_rfl) | (rw [if_neg (by decide +kernel)]; exact ⟨rfl, rfl⟩))
    (fun os started H enc _ => lifted_FileMore os started H enc)
#print axioms fileMore_holds
end Go.Proofs.Ytpgjjndmbkkhiaa
