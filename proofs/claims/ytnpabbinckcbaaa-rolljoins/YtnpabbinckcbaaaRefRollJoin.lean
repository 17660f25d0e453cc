/- What the document's answer to a join of rolls does. No statement of the seat is proved here; no condition. -/
import Derived.Test.YtnpabbinckcbaaaRefRoll
set_option linter.unusedSimpArgs false
set_option linter.unusedVariables false
namespace Go.Proofs.Ytnpabbinckcbaaa
open Go.RowKit Go.Ord Go.Baro

theorem eltInt : Elt Try.prog 30 3 (.int .i64 0) 1 8 := Elt.mk' Try.underlying30 (by kernel_rfl) rfl (by decide)

set_option maxHeartbeats 1000000 in
theorem ref_RollMay (q : Rl) (r : Bool) (w : World) (hr : r = true ↔ okRl q) :
    Calls Try.prog 8 #[rlV q] w fun e w' => e = .returned (.bool r) ∧ Below w.heap.size w w' := by
  obtain ⟨c, lo, hi, s⟩ := q
  have HR := Lib.hid hr
  clear hr
  unfold rlV
  dsimp only
  have h0 : Below w.heap.size w w := Below.refl _ _
  by_cases hc : c = 0
  · subst hc
    have H1 := Lib.hid (okRl_zero (r := ⟨0, lo, hi, s⟩) rfl)
    by_cases h1 : lo = 0
    · subst h1
      by_cases h2 : hi = 0
      · subst h2
        go_enter Try.func8, Try.ntmps8
        go_wp2
        go_ret
        refine ⟨ret_bool ?_, h0.alloc (Nat.le_refl _) _⟩
        have hk : r = true ↔ s = 0 := ⟨fun h => (H1.out.1 (HR.out.1 h)).2.2, fun h3 => HR.out.2 (H1.out.2 (by simp [h3]))⟩
        cases r <;> simp at hk ⊢ <;> omega
      · have hb2 : (hi == 0) = false := by simp [h2]
        go_enter Try.func8, Try.ntmps8
        go_wp2
        go_ret
        refine ⟨ret_bool ?_, h0.alloc (Nat.le_refl _) _⟩
        cases r with
        | false => rfl
        | true => exact absurd (H1.out.1 (HR.out.1 rfl)).2.1 h2
    · have hb2 : (lo == 0) = false := by simp [h1]
      go_enter Try.func8, Try.ntmps8
      go_wp2
      go_ret
      refine ⟨ret_bool ?_, h0.alloc (Nat.le_refl _) _⟩
      cases r with
      | false => rfl
      | true => exact absurd (H1.out.1 (HR.out.1 rfl)).1 h1
  · have H1 := Lib.hid (okRl_pos (r := ⟨c, lo, hi, s⟩) hc)
    have hcb : (c == 0) = false := by simp [hc]
    by_cases h1 : c < 0
    · go_enter Try.func8, Try.ntmps8
      go_wp2
      go_ret
      refine ⟨ret_bool ?_, h0.alloc (Nat.le_refl _) _⟩
      cases r with
      | false => rfl
      | true => have := (H1.out.1 (HR.out.1 rfl)).1; omega
    by_cases h2 : 1048576 < c
    · go_enter Try.func8, Try.ntmps8
      go_wp2
      go_ret
      refine ⟨ret_bool ?_, h0.alloc (Nat.le_refl _) _⟩
      cases r with
      | false => rfl
      | true => have := (H1.out.1 (HR.out.1 rfl)).1; omega
    by_cases h3 : hi < lo
    · go_enter Try.func8, Try.ntmps8
      go_wp2
      go_ret
      refine ⟨ret_bool ?_, h0.alloc (Nat.le_refl _) _⟩
      cases r with
      | false => rfl
      | true => have := (H1.out.1 (HR.out.1 rfl)).2.2; omega
    have hk : r = true ↔ ∀ x ∈ [lo, hi, s], N61 x := by
      rw [HR.out, H1.out]
      simp
      constructor
      · exact fun h => h.2.1
      · exact fun h => ⟨by omega, h, by omega⟩
    have HK := Lib.hid hk
    clear hk
    have hri := RI_lit (w.alloc (.cells (rlC ⟨c, lo, hi, s⟩).toArray 23)) 3 .i64 [lo, hi, s] 3 (w.heap.size + 1) (by simp) rfl
    go_enter Try.func8, Try.ntmps8
    go_wp2
    go_loop [44] (fun i => ∃ j : Nat, j ≤ 3 ∧ i = .int .i64 j ∧ Hid (∀ x ∈ [lo, hi, s].take j, N61 x)) (fun i => 3 - (intOf i).toNat)
    case atStart => exact ⟨0, Nat.zero_le _, rfl, by simp [Hid]⟩
    case round =>
      obtain ⟨j, hj, rfl, HC⟩ := hrel
      by_cases hlt : j < 3
      · obtain ⟨b, o, x, hA, _, hcell, HX, hmem⟩ := hri.val hlt
        injection hA with hA
        injection hA with hA1 hA2
        subst hA1 hA2
        rw [Nat.zero_add] at hcell
        replace hcell : ((w.alloc (.cells #[.int .i64 c, .int .i64 lo, .int .i64 hi, .int .i64 s] 23)).alloc (.cells #[.int .i64 lo, .int .i64 hi, .int .i64 s] 3)).cell? ⟨w.heap.size + 1, j, none⟩ = some (.int .i64 x) := hcell
        have HM := Lib.hid hmem
        have HXX := HX
        clear hmem hri
        by_cases q1 : x < -2305843009213693952
        · go_wp2
          go_ret
          refine ⟨ret_bool ?_, (h0.alloc (Nat.le_refl _) _).alloc (by simp) _⟩
          cases r with
          | false => rfl
          | true => have := HK.out.1 rfl x HM.out; unfold N61 at this; omega
        by_cases q2 : 2305843009213693952 ≤ x
        · go_wp2
          go_ret
          refine ⟨ret_bool ?_, (h0.alloc (Nat.le_refl _) _).alloc (by simp) _⟩
          cases r with
          | false => rfl
          | true => have := HK.out.1 rfl x HM.out; unfold N61 at this; omega
        go_wp2
        go_round
        case rel =>
          refine ⟨j + 1, by omega, by go_num, ?_⟩
          show ∀ y ∈ _, _
          rw [at_take HX.out]
          intro y hy
          rcases List.mem_append.1 hy with hy | hy
          · exact HC.out y hy
          · simp at hy; unfold N61; omega
        case measure => simp [intOf]; omega
      · obtain rfl : j = 3 := by omega
        clear hri
        go_wp2
        go_ret
        refine ⟨ret_bool ?_, (h0.alloc (Nat.le_refl _) _).alloc (by simp) _⟩
        exact (HK.out.2 HC.out).symm

set_option maxRecDepth 100000 in
set_option maxHeartbeats 2000000 in
theorem ref_RollJoin (a b r : Rl) (k : Int) (w : World) (hr : r = jnR a b) (hk : k = jnC a b) :
    Calls Try.prog 5 #[rlV a, rlV b] w fun e w' => e = .returned (.tuple #[rlV r, .int .i64 k]) ∧ Below w.heap.size w w' := by
  have h0 : Below w.heap.size w w := Below.refl _ _
  have HR := Lib.hid hr
  have HK := Lib.hid hk
  clear hr hk
  obtain ⟨ac, al, ah, az⟩ := a
  obtain ⟨bc, bl, bh, bz⟩ := b
  have bA := ((Box.newAt w 23 (rlC ⟨ac, al, ah, az⟩) _ rfl).alloc (Obj.cells (rlC ⟨bc, bl, bh, bz⟩).toArray 23)).alloc (Obj.cells (rlC rl0).toArray 23)
  have bB := (Box.newAt (w.alloc (Obj.cells (rlC ⟨ac, al, ah, az⟩).toArray 23)) 23 (rlC ⟨bc, bl, bh, bz⟩) (w.heap.size + 1) (by simp)).alloc (Obj.cells (rlC rl0).toArray 23)
  have bC := Box.newAt ((w.alloc (Obj.cells (rlC ⟨ac, al, ah, az⟩).toArray 23)).alloc (Obj.cells (rlC ⟨bc, bl, bh, bz⟩).toArray 23)) 23 (rlC rl0) (w.heap.size + 1 + 1) (by simp)
  have hA := ((h0.alloc (Nat.le_refl _) (Obj.cells (rlC ⟨ac, al, ah, az⟩).toArray 23)).alloc (by simp) (Obj.cells (rlC ⟨bc, bl, bh, bz⟩).toArray 23)).alloc (by simp; omega) (Obj.cells (rlC rl0).toArray 23)
  generalize hw : ((w.alloc (Obj.cells (rlC ⟨ac, al, ah, az⟩).toArray 23)).alloc (Obj.cells (rlC ⟨bc, bl, bh, bz⟩).toArray 23)).alloc (Obj.cells (rlC rl0).toArray 23) = w0 at bA bB bC hA
  have hs0 : w0.heap.size = w.heap.size + 1 + 1 + 1 := by rw [← hw]; simp
  unfold rlV
  dsimp only
  by_cases ha : okRl ⟨ac, al, ah, az⟩
  · go_enter Try.func5, Try.ntmps5
    go_wp2_with fail
    refine (ref_RollMay ⟨ac, al, ah, az⟩ true _ (by simp; exact ha)).mono ?_
    rintro e w1 ⟨rfl, hb1⟩
    replace hb1 : Below w0.heap.size w0 w1 := by rw [← hw]; exact hb1
    have bA1 := bA.below hb1 (by omega)
    have bB1 := bB.below hb1 (by omega)
    have bC1 := bC.below hb1 (by omega)
    have hA1 := hA.trans (hb1.mono hA.size)
    clear bA bB bC hA
    have hs1 := hb1.size
    obtain ⟨cB0, cB1, cB2, cB3⟩ := bB1.cells4
    by_cases hb : okRl ⟨bc, bl, bh, bz⟩
    · go_wp2_with fail
      refine (ref_RollMay ⟨bc, bl, bh, bz⟩ true _ (by simp; exact hb)).mono ?_
      rintro e w2 ⟨rfl, hb2⟩
      have bA2 := bA1.below hb2 bA1.lt
      have bB2 := bB1.below hb2 bB1.lt
      have bC2 := bC1.below hb2 bC1.lt
      have hA2 := hA1.trans (hb2.mono hA1.size)
      clear bA1 bB1 bC1 hA1 cB0 cB1 cB2 cB3
      have hs2 := hb2.size
      obtain ⟨cA0, cA1, cA2, cA3⟩ := bA2.cells4
      obtain ⟨cB0, cB1, cB2, cB3⟩ := bB2.cells4
      dsimp only at cA0 cA1 cA2 cA3 cB0 cB1 cB2 cB3
      have lA := bA2.lt
      have lB := bB2.lt
      have lC := bC2.lt
      have n1 := okRl_nums ha
      have n2 := okRl_nums hb
      have HJ := Lib.hid (ends_join ha hb)
      have HE := Lib.hid (ends_ok ha hb)
      unfold N61 at n1 n2
      dsimp only at n1 n2
      have HA := Lib.hid ha
      have HB := Lib.hid hb
      clear ha hb
      by_cases pa : 0 < ac
      · by_cases pb : 0 < bc
        · have HL := Lib.hid (show endsOf ⟨ac, al, ah, az⟩ ⟨bc, bl, bh, bz⟩ = [al, ah, bl, bh] by simp [endsOf, pa, pb])
          rw [HL.out] at HJ HE
          have bR2 := Box.newAt w2 23 (rlC ⟨ac + bc, 0, 0, az + bz⟩) _ rfl
          go_wp2_with (first | (at_builtin; refine app_lit eltInt (w2.alloc _) rfl (.tmp 32) (.tmp 37) rfl w.heap.size (.slice none 0 0) 0 [] rfl (World.ownsRow_nil _ _ _ _) 2 [_, _] (w2.heap.size + 1) (by simp) rfl rfl (one2 _ _ _ _) (by omega) (by omega) (by simp; omega) ?_; intro v3 w3 hown3 hgr3 hbel3 _; have bB3 := ((bB2.alloc _).alloc _).grown hgr3 (by simp [Value.ownBlock]); have bC3 := ((bC2.alloc _).alloc _).grown hgr3 (by simp [Value.ownBlock]); have bR3 := (bR2.alloc _).grown hgr3 (by simp [Value.ownBlock]); have hA3 := hbel3 _ (hA2.alloc hA2.size _); have d0 := bB3.cell 0; have d1 := bB3.cell 1; have d2 := bB3.cell 2; replace d0 : w3.cell? ⟨w.heap.size + 1, 0, none⟩ = some (.int .i64 bc) := d0; replace d1 : w3.cell? ⟨w.heap.size + 1, 1, none⟩ = some (.int .i64 bl) := d1; replace d2 : w3.cell? ⟨w.heap.size + 1, 2, none⟩ = some (.int .i64 bh) := d2) | (at_builtin; refine app_lit eltInt w3 rfl (.tmp 42) (.tmp 47) rfl w.heap.size v3 _ _ rfl (by exact hown3) 2 [_, _] _ rfl rfl rfl (one2 _ _ _ _) (by omega) (by omega) (by omega) ?_; intro v4 w4 hown4 hgr4 hbel4 _; have bC4 := (bC3.alloc _).grown hgr4 (bC3.ne hown3 (by decide)); have bR4 := (bR3.alloc _).grown hgr4 (bR3.ne hown3 (by decide)); have hA4 := hbel4 _ hA3) | fail)
          obtain ⟨N, hownN, hN⟩ := own_count hown4
          obtain ⟨B, cp, rfl, _⟩ := own_form hownN
          have hri : RI w4 w4.heap.size .i64 B N [al, ah, bl, bh] := Rd.of_own hownN
          obtain ⟨q, hq⟩ : ∃ q, q = rollV [al, ah, bl, bh] := ⟨_, rfl⟩
          obtain ⟨qc, ql, qh, qz⟩ := q
          rw [← hq] at HJ
          dsimp only at HJ
          refine (ref_rollOf [al, ah, bl, bh] _ _ _ _ ⟨qc, ql, qh, qz⟩ hri (by omega) (fun j _ => sum_take61 HE.out.1 HE.out.2 j) hq).mono ?_
          rintro e w5 ⟨rfl, hb5⟩
          have bC5 := bC4.below hb5 bC4.lt
          have bR5 := bR4.below hb5 bR4.lt
          have hA5 := hA4.trans (hb5.mono hA4.size)
          have hs5 := hb5.size
          obtain ⟨cR0, cR1, cR2, cR3⟩ := bR5.cells4
          obtain ⟨fR0, fR1, fR2, fR3⟩ := bR5.frozen4
          have lR := bR5.lt
          have lC5 := bC5.lt
          have HQ := Lib.hid hq
          unfold rlV
          dsimp only
          by_cases hv : okRl ⟨ac + bc, ql, qh, az + bz⟩
          · have HJN := Lib.hid (jn_ok ⟨HA.out, HB.out⟩ (by rw [← HJ.out]; exact hv))
            rw [← HJ.out] at HJN
            go_wp2_with fail
            refine (ref_RollMay ⟨ac + bc, ql, qh, az + bz⟩ true _ (by simp; exact hv)).mono ?_
            rintro e w6 ⟨rfl, hb6⟩
            have bC6 := (((bC5.other 1 (.int .i64 ql) (by omega)).other 2 (.int .i64 qh) (by omega)).alloc (Obj.cells (rlC ⟨qc, ql, qh, qz⟩).toArray 23)).below hb6 (by simp; omega)
            have bR6 := (((bR5.set 1 (.int .i64 ql)).set 2 (.int .i64 qh)).alloc (Obj.cells (rlC ⟨qc, ql, qh, qz⟩).toArray 23)).below hb6 (by simp; omega)
            have hA6 := ((below_at (below_at hA5 hA2.size 1 (.int .i64 ql)) hA2.size 2 (.int .i64 qh)).alloc (by simpa using hA5.size) (Obj.cells (rlC ⟨qc, ql, qh, qz⟩).toArray 23)).trans (hb6.mono (by simp; omega))
            obtain ⟨cC0, cC1, cC2, cC3⟩ := bC6.cells4
            obtain ⟨fC0, fC1, fC2, fC3⟩ := bC6.frozen4
            replace bR6 : Box w6 w2.heap.size 23 [.int .i64 (ac + bc), .int .i64 ql, .int .i64 qh, .int .i64 (az + bz)] := bR6
            clear cR0 cR1 cR2 cR3 fR0 fR1 fR2 fR3
            obtain ⟨cR0, cR1, cR2, cR3⟩ := bR6.cells4
            have hs6 := hb6.size
            go_wp2
            refine bodyPost_ret (results_row_tmp rfl _ _ (w.heap.size + 1 + 1) _ _ _ _ rfl (by exact bC6.four _ _ _ _) Try.underlying23 rfl (by kernel_rfl)) rfl ?_
            refine ⟨?_, below_set4 hA6 (by omega) _ _ _ _⟩
            exact ret_two (by rw [HR.out, HJN.out.2]) (val_int (by rw [HK.out, HJN.out.1]))
          · have HJN := Lib.hid (jn_over ⟨HA.out, HB.out⟩ (by rw [← HJ.out]; exact hv))
            have HV := Lib.hid hv
            clear hv
            go_wp2_with fail
            refine (ref_RollMay ⟨ac + bc, ql, qh, az + bz⟩ false _ (by simp; exact HV.out)).mono ?_
            rintro e w6 ⟨rfl, hb6⟩
            have bC6 := (((bC5.other 1 (.int .i64 ql) (by omega)).other 2 (.int .i64 qh) (by omega)).alloc (Obj.cells (rlC ⟨qc, ql, qh, qz⟩).toArray 23)).below hb6 (by simp; omega)
            have bR6 := (((bR5.set 1 (.int .i64 ql)).set 2 (.int .i64 qh)).alloc (Obj.cells (rlC ⟨qc, ql, qh, qz⟩).toArray 23)).below hb6 (by simp; omega)
            have hA6 := ((below_at (below_at hA5 hA2.size 1 (.int .i64 ql)) hA2.size 2 (.int .i64 qh)).alloc (by simpa using hA5.size) (Obj.cells (rlC ⟨qc, ql, qh, qz⟩).toArray 23)).trans (hb6.mono (by simp; omega))
            obtain ⟨cC0, cC1, cC2, cC3⟩ := bC6.cells4
            obtain ⟨fC0, fC1, fC2, fC3⟩ := bC6.frozen4
            replace bR6 : Box w6 w2.heap.size 23 [.int .i64 (ac + bc), .int .i64 ql, .int .i64 qh, .int .i64 (az + bz)] := bR6
            clear cR0 cR1 cR2 cR3 fR0 fR1 fR2 fR3
            obtain ⟨cR0, cR1, cR2, cR3⟩ := bR6.cells4
            have hs6 := hb6.size
            go_wp2
            refine bodyPost_ret (results_row_tmp rfl _ _ (w.heap.size + 1 + 1) _ _ _ _ rfl (by exact bC6.four _ _ _ _) Try.underlying23 rfl (by kernel_rfl)) rfl ?_
            refine ⟨?_, below_set4 hA6 (by omega) _ _ _ _⟩
            exact ret_two (by rw [HR.out, HJN.out.2]; rfl) (val_int (by rw [HK.out, HJN.out.1]))
        · have HL := Lib.hid (show endsOf ⟨ac, al, ah, az⟩ ⟨bc, bl, bh, bz⟩ = [al, ah] by simp [endsOf, pa, pb])
          rw [HL.out] at HJ HE
          obtain ⟨rfl, rfl, rfl, rfl⟩ : bc = 0 ∧ bl = 0 ∧ bh = 0 ∧ bz = 0 := by have := okRl_eq0 HB.out (by dsimp only; omega); simpa [rl0] using this
          simp only [Int.add_zero, Int.zero_add] at HJ
          have bR2 := Box.newAt w2 23 (rlC ⟨ac, 0, 0, az⟩) _ rfl
          go_wp2_with (first | (at_builtin; refine app_lit eltInt (w2.alloc _) rfl (.tmp 32) (.tmp 37) rfl w.heap.size (.slice none 0 0) 0 [] rfl (World.ownsRow_nil _ _ _ _) 2 [_, _] (w2.heap.size + 1) (by simp) rfl rfl (one2 _ _ _ _) (by omega) (by omega) (by simp; omega) ?_; intro v3 w3 hown3 hgr3 hbel3 _; have bB3 := ((bB2.alloc _).alloc _).grown hgr3 (by simp [Value.ownBlock]); have bC3 := ((bC2.alloc _).alloc _).grown hgr3 (by simp [Value.ownBlock]); have bR3 := (bR2.alloc _).grown hgr3 (by simp [Value.ownBlock]); have hA3 := hbel3 _ (hA2.alloc hA2.size _); have d0 := bB3.cell 0; have d1 := bB3.cell 1; have d2 := bB3.cell 2; replace d0 : w3.cell? ⟨w.heap.size + 1, 0, none⟩ = some (.int .i64 0) := d0; replace d1 : w3.cell? ⟨w.heap.size + 1, 1, none⟩ = some (.int .i64 0) := d1; replace d2 : w3.cell? ⟨w.heap.size + 1, 2, none⟩ = some (.int .i64 0) := d2) | fail)
          obtain ⟨N, hownN, hN⟩ := own_count hown3
          obtain ⟨B, cp, rfl, _⟩ := own_form hownN
          have hri : RI w3 w3.heap.size .i64 B N [al, ah] := Rd.of_own hownN
          obtain ⟨q, hq⟩ : ∃ q, q = rollV [al, ah] := ⟨_, rfl⟩
          obtain ⟨qc, ql, qh, qz⟩ := q
          rw [← hq] at HJ
          dsimp only at HJ
          refine (ref_rollOf [al, ah] _ _ _ _ ⟨qc, ql, qh, qz⟩ hri (by omega) (fun j _ => sum_take61 HE.out.1 HE.out.2 j) hq).mono ?_
          rintro e w5 ⟨rfl, hb5⟩
          have bC5 := bC3.below hb5 bC3.lt
          have bR5 := bR3.below hb5 bR3.lt
          have hA5 := hA3.trans (hb5.mono hA3.size)
          have hs5 := hb5.size
          obtain ⟨cR0, cR1, cR2, cR3⟩ := bR5.cells4
          obtain ⟨fR0, fR1, fR2, fR3⟩ := bR5.frozen4
          have lR := bR5.lt
          have lC5 := bC5.lt
          have HQ := Lib.hid hq
          unfold rlV
          dsimp only
          by_cases hv : okRl ⟨ac, ql, qh, az⟩
          · have HJN := Lib.hid (jn_ok ⟨HA.out, HB.out⟩ (by rw [← HJ.out]; exact hv))
            rw [← HJ.out] at HJN
            go_wp2_with fail
            refine (ref_RollMay ⟨ac, ql, qh, az⟩ true _ (by simp; exact hv)).mono ?_
            rintro e w6 ⟨rfl, hb6⟩
            have bC6 := (((bC5.other 1 (.int .i64 ql) (by omega)).other 2 (.int .i64 qh) (by omega)).alloc (Obj.cells (rlC ⟨qc, ql, qh, qz⟩).toArray 23)).below hb6 (by simp; omega)
            have bR6 := (((bR5.set 1 (.int .i64 ql)).set 2 (.int .i64 qh)).alloc (Obj.cells (rlC ⟨qc, ql, qh, qz⟩).toArray 23)).below hb6 (by simp; omega)
            have hA6 := ((below_at (below_at hA5 hA2.size 1 (.int .i64 ql)) hA2.size 2 (.int .i64 qh)).alloc (by simpa using hA5.size) (Obj.cells (rlC ⟨qc, ql, qh, qz⟩).toArray 23)).trans (hb6.mono (by simp; omega))
            obtain ⟨cC0, cC1, cC2, cC3⟩ := bC6.cells4
            obtain ⟨fC0, fC1, fC2, fC3⟩ := bC6.frozen4
            replace bR6 : Box w6 w2.heap.size 23 [.int .i64 (ac), .int .i64 ql, .int .i64 qh, .int .i64 (az)] := bR6
            clear cR0 cR1 cR2 cR3 fR0 fR1 fR2 fR3
            obtain ⟨cR0, cR1, cR2, cR3⟩ := bR6.cells4
            have hs6 := hb6.size
            go_wp2
            refine bodyPost_ret (results_row_tmp rfl _ _ (w.heap.size + 1 + 1) _ _ _ _ rfl (by exact bC6.four _ _ _ _) Try.underlying23 rfl (by kernel_rfl)) rfl ?_
            refine ⟨?_, below_set4 hA6 (by omega) _ _ _ _⟩
            exact ret_two (by rw [HR.out, HJN.out.2]) (val_int (by rw [HK.out, HJN.out.1]))
          · have HJN := Lib.hid (jn_over ⟨HA.out, HB.out⟩ (by rw [← HJ.out]; exact hv))
            have HV := Lib.hid hv
            clear hv
            go_wp2_with fail
            refine (ref_RollMay ⟨ac, ql, qh, az⟩ false _ (by simp; exact HV.out)).mono ?_
            rintro e w6 ⟨rfl, hb6⟩
            have bC6 := (((bC5.other 1 (.int .i64 ql) (by omega)).other 2 (.int .i64 qh) (by omega)).alloc (Obj.cells (rlC ⟨qc, ql, qh, qz⟩).toArray 23)).below hb6 (by simp; omega)
            have bR6 := (((bR5.set 1 (.int .i64 ql)).set 2 (.int .i64 qh)).alloc (Obj.cells (rlC ⟨qc, ql, qh, qz⟩).toArray 23)).below hb6 (by simp; omega)
            have hA6 := ((below_at (below_at hA5 hA2.size 1 (.int .i64 ql)) hA2.size 2 (.int .i64 qh)).alloc (by simpa using hA5.size) (Obj.cells (rlC ⟨qc, ql, qh, qz⟩).toArray 23)).trans (hb6.mono (by simp; omega))
            obtain ⟨cC0, cC1, cC2, cC3⟩ := bC6.cells4
            obtain ⟨fC0, fC1, fC2, fC3⟩ := bC6.frozen4
            replace bR6 : Box w6 w2.heap.size 23 [.int .i64 (ac), .int .i64 ql, .int .i64 qh, .int .i64 (az)] := bR6
            clear cR0 cR1 cR2 cR3 fR0 fR1 fR2 fR3
            obtain ⟨cR0, cR1, cR2, cR3⟩ := bR6.cells4
            have hs6 := hb6.size
            go_wp2
            refine bodyPost_ret (results_row_tmp rfl _ _ (w.heap.size + 1 + 1) _ _ _ _ rfl (by exact bC6.four _ _ _ _) Try.underlying23 rfl (by kernel_rfl)) rfl ?_
            refine ⟨?_, below_set4 hA6 (by omega) _ _ _ _⟩
            exact ret_two (by rw [HR.out, HJN.out.2]; rfl) (val_int (by rw [HK.out, HJN.out.1]))
      · by_cases pb : 0 < bc
        · have HL := Lib.hid (show endsOf ⟨ac, al, ah, az⟩ ⟨bc, bl, bh, bz⟩ = [bl, bh] by simp [endsOf, pa, pb])
          rw [HL.out] at HJ HE
          obtain ⟨rfl, rfl, rfl, rfl⟩ : ac = 0 ∧ al = 0 ∧ ah = 0 ∧ az = 0 := by have := okRl_eq0 HA.out (by dsimp only; omega); simpa [rl0] using this
          simp only [Int.add_zero, Int.zero_add] at HJ
          have bR2 := Box.newAt w2 23 (rlC ⟨bc, 0, 0, bz⟩) _ rfl
          go_wp2_with (first | (at_builtin; refine app_lit eltInt (w2.alloc _) rfl (.tmp 42) (.tmp 47) rfl w.heap.size (.slice none 0 0) 0 [] rfl (World.ownsRow_nil _ _ _ _) 2 [_, _] (w2.heap.size + 1) (by simp) rfl rfl (one2 _ _ _ _) (by omega) (by omega) (by simp; omega) ?_; intro v3 w3 hown3 hgr3 hbel3 _; have bB3 := ((bB2.alloc _).alloc _).grown hgr3 (by simp [Value.ownBlock]); have bC3 := ((bC2.alloc _).alloc _).grown hgr3 (by simp [Value.ownBlock]); have bR3 := (bR2.alloc _).grown hgr3 (by simp [Value.ownBlock]); have hA3 := hbel3 _ (hA2.alloc hA2.size _); have d0 := bB3.cell 0; have d1 := bB3.cell 1; have d2 := bB3.cell 2; replace d0 : w3.cell? ⟨w.heap.size + 1, 0, none⟩ = some (.int .i64 bc) := d0; replace d1 : w3.cell? ⟨w.heap.size + 1, 1, none⟩ = some (.int .i64 bl) := d1; replace d2 : w3.cell? ⟨w.heap.size + 1, 2, none⟩ = some (.int .i64 bh) := d2) | fail)
          obtain ⟨N, hownN, hN⟩ := own_count hown3
          obtain ⟨B, cp, rfl, _⟩ := own_form hownN
          have hri : RI w3 w3.heap.size .i64 B N [bl, bh] := Rd.of_own hownN
          obtain ⟨q, hq⟩ : ∃ q, q = rollV [bl, bh] := ⟨_, rfl⟩
          obtain ⟨qc, ql, qh, qz⟩ := q
          rw [← hq] at HJ
          dsimp only at HJ
          refine (ref_rollOf [bl, bh] _ _ _ _ ⟨qc, ql, qh, qz⟩ hri (by omega) (fun j _ => sum_take61 HE.out.1 HE.out.2 j) hq).mono ?_
          rintro e w5 ⟨rfl, hb5⟩
          have bC5 := bC3.below hb5 bC3.lt
          have bR5 := bR3.below hb5 bR3.lt
          have hA5 := hA3.trans (hb5.mono hA3.size)
          have hs5 := hb5.size
          obtain ⟨cR0, cR1, cR2, cR3⟩ := bR5.cells4
          obtain ⟨fR0, fR1, fR2, fR3⟩ := bR5.frozen4
          have lR := bR5.lt
          have lC5 := bC5.lt
          have HQ := Lib.hid hq
          unfold rlV
          dsimp only
          by_cases hv : okRl ⟨bc, ql, qh, bz⟩
          · have HJN := Lib.hid (jn_ok ⟨HA.out, HB.out⟩ (by rw [← HJ.out]; exact hv))
            rw [← HJ.out] at HJN
            go_wp2_with fail
            refine (ref_RollMay ⟨bc, ql, qh, bz⟩ true _ (by simp; exact hv)).mono ?_
            rintro e w6 ⟨rfl, hb6⟩
            have bC6 := (((bC5.other 1 (.int .i64 ql) (by omega)).other 2 (.int .i64 qh) (by omega)).alloc (Obj.cells (rlC ⟨qc, ql, qh, qz⟩).toArray 23)).below hb6 (by simp; omega)
            have bR6 := (((bR5.set 1 (.int .i64 ql)).set 2 (.int .i64 qh)).alloc (Obj.cells (rlC ⟨qc, ql, qh, qz⟩).toArray 23)).below hb6 (by simp; omega)
            have hA6 := ((below_at (below_at hA5 hA2.size 1 (.int .i64 ql)) hA2.size 2 (.int .i64 qh)).alloc (by simpa using hA5.size) (Obj.cells (rlC ⟨qc, ql, qh, qz⟩).toArray 23)).trans (hb6.mono (by simp; omega))
            obtain ⟨cC0, cC1, cC2, cC3⟩ := bC6.cells4
            obtain ⟨fC0, fC1, fC2, fC3⟩ := bC6.frozen4
            replace bR6 : Box w6 w2.heap.size 23 [.int .i64 (bc), .int .i64 ql, .int .i64 qh, .int .i64 (bz)] := bR6
            clear cR0 cR1 cR2 cR3 fR0 fR1 fR2 fR3
            obtain ⟨cR0, cR1, cR2, cR3⟩ := bR6.cells4
            have hs6 := hb6.size
            go_wp2
            refine bodyPost_ret (results_row_tmp rfl _ _ (w.heap.size + 1 + 1) _ _ _ _ rfl (by exact bC6.four _ _ _ _) Try.underlying23 rfl (by kernel_rfl)) rfl ?_
            refine ⟨?_, below_set4 hA6 (by omega) _ _ _ _⟩
            exact ret_two (by rw [HR.out, HJN.out.2]) (val_int (by rw [HK.out, HJN.out.1]))
          · have HJN := Lib.hid (jn_over ⟨HA.out, HB.out⟩ (by rw [← HJ.out]; exact hv))
            have HV := Lib.hid hv
            clear hv
            go_wp2_with fail
            refine (ref_RollMay ⟨bc, ql, qh, bz⟩ false _ (by simp; exact HV.out)).mono ?_
            rintro e w6 ⟨rfl, hb6⟩
            have bC6 := (((bC5.other 1 (.int .i64 ql) (by omega)).other 2 (.int .i64 qh) (by omega)).alloc (Obj.cells (rlC ⟨qc, ql, qh, qz⟩).toArray 23)).below hb6 (by simp; omega)
            have bR6 := (((bR5.set 1 (.int .i64 ql)).set 2 (.int .i64 qh)).alloc (Obj.cells (rlC ⟨qc, ql, qh, qz⟩).toArray 23)).below hb6 (by simp; omega)
            have hA6 := ((below_at (below_at hA5 hA2.size 1 (.int .i64 ql)) hA2.size 2 (.int .i64 qh)).alloc (by simpa using hA5.size) (Obj.cells (rlC ⟨qc, ql, qh, qz⟩).toArray 23)).trans (hb6.mono (by simp; omega))
            obtain ⟨cC0, cC1, cC2, cC3⟩ := bC6.cells4
            obtain ⟨fC0, fC1, fC2, fC3⟩ := bC6.frozen4
            replace bR6 : Box w6 w2.heap.size 23 [.int .i64 (bc), .int .i64 ql, .int .i64 qh, .int .i64 (bz)] := bR6
            clear cR0 cR1 cR2 cR3 fR0 fR1 fR2 fR3
            obtain ⟨cR0, cR1, cR2, cR3⟩ := bR6.cells4
            have hs6 := hb6.size
            go_wp2
            refine bodyPost_ret (results_row_tmp rfl _ _ (w.heap.size + 1 + 1) _ _ _ _ rfl (by exact bC6.four _ _ _ _) Try.underlying23 rfl (by kernel_rfl)) rfl ?_
            refine ⟨?_, below_set4 hA6 (by omega) _ _ _ _⟩
            exact ret_two (by rw [HR.out, HJN.out.2]; rfl) (val_int (by rw [HK.out, HJN.out.1]))
        · have HL := Lib.hid (show endsOf ⟨ac, al, ah, az⟩ ⟨bc, bl, bh, bz⟩ = [] by simp [endsOf, pa, pb])
          rw [HL.out] at HJ HE
          obtain ⟨rfl, rfl, rfl, rfl⟩ : ac = 0 ∧ al = 0 ∧ ah = 0 ∧ az = 0 := by have := okRl_eq0 HA.out (by dsimp only; omega); simpa [rl0] using this
          obtain ⟨rfl, rfl, rfl, rfl⟩ : bc = 0 ∧ bl = 0 ∧ bh = 0 ∧ bz = 0 := by have := okRl_eq0 HB.out (by dsimp only; omega); simpa [rl0] using this
          simp only [Int.add_zero, Int.zero_add] at HJ
          have bR2 := Box.newAt w2 23 (rlC ⟨0, 0, 0, 0⟩) _ rfl
          go_wp2_with fail
          obtain ⟨q, hq⟩ : ∃ q, q = rollV [] := ⟨_, rfl⟩
          obtain ⟨qc, ql, qh, qz⟩ := q
          rw [← hq] at HJ
          dsimp only at HJ
          refine (ref_rollOf [] _ _ _ _ ⟨qc, ql, qh, qz⟩ (RI.nil _ _ _ _) (by omega) (fun j _ => sum_take61 HE.out.1 HE.out.2 j) hq).mono ?_
          rintro e w5 ⟨rfl, hb5⟩
          have bC5 := (bC2.alloc _).below hb5 (bC2.alloc _).lt
          have bR5 := bR2.below hb5 bR2.lt
          have hA5 := (hA2.alloc hA2.size _).trans (hb5.mono (hA2.alloc hA2.size _).size)
          have hs5 := hb5.size
          obtain ⟨cR0, cR1, cR2, cR3⟩ := bR5.cells4
          obtain ⟨fR0, fR1, fR2, fR3⟩ := bR5.frozen4
          have lR := bR5.lt
          have lC5 := bC5.lt
          have HQ := Lib.hid hq
          unfold rlV
          dsimp only
          by_cases hv : okRl ⟨0, ql, qh, 0⟩
          · have HJN := Lib.hid (jn_ok ⟨HA.out, HB.out⟩ (by rw [← HJ.out]; exact hv))
            rw [← HJ.out] at HJN
            go_wp2_with fail
            refine (ref_RollMay ⟨0, ql, qh, 0⟩ true _ (by simp; exact hv)).mono ?_
            rintro e w6 ⟨rfl, hb6⟩
            have bC6 := (((bC5.other 1 (.int .i64 ql) (by omega)).other 2 (.int .i64 qh) (by omega)).alloc (Obj.cells (rlC ⟨qc, ql, qh, qz⟩).toArray 23)).below hb6 (by simp; omega)
            have bR6 := (((bR5.set 1 (.int .i64 ql)).set 2 (.int .i64 qh)).alloc (Obj.cells (rlC ⟨qc, ql, qh, qz⟩).toArray 23)).below hb6 (by simp; omega)
            have hA6 := ((below_at (below_at hA5 hA2.size 1 (.int .i64 ql)) hA2.size 2 (.int .i64 qh)).alloc (by simpa using hA5.size) (Obj.cells (rlC ⟨qc, ql, qh, qz⟩).toArray 23)).trans (hb6.mono (by simp; omega))
            obtain ⟨cC0, cC1, cC2, cC3⟩ := bC6.cells4
            obtain ⟨fC0, fC1, fC2, fC3⟩ := bC6.frozen4
            replace bR6 : Box w6 w2.heap.size 23 [.int .i64 (0), .int .i64 ql, .int .i64 qh, .int .i64 (0)] := bR6
            clear cR0 cR1 cR2 cR3 fR0 fR1 fR2 fR3
            obtain ⟨cR0, cR1, cR2, cR3⟩ := bR6.cells4
            have hs6 := hb6.size
            go_wp2
            refine bodyPost_ret (results_row_tmp rfl _ _ (w.heap.size + 1 + 1) _ _ _ _ rfl (by exact bC6.four _ _ _ _) Try.underlying23 rfl (by kernel_rfl)) rfl ?_
            refine ⟨?_, below_set4 hA6 (by omega) _ _ _ _⟩
            exact ret_two (by rw [HR.out, HJN.out.2]) (val_int (by rw [HK.out, HJN.out.1]))
          · have HJN := Lib.hid (jn_over ⟨HA.out, HB.out⟩ (by rw [← HJ.out]; exact hv))
            have HV := Lib.hid hv
            clear hv
            go_wp2_with fail
            refine (ref_RollMay ⟨0, ql, qh, 0⟩ false _ (by simp; exact HV.out)).mono ?_
            rintro e w6 ⟨rfl, hb6⟩
            have bC6 := (((bC5.other 1 (.int .i64 ql) (by omega)).other 2 (.int .i64 qh) (by omega)).alloc (Obj.cells (rlC ⟨qc, ql, qh, qz⟩).toArray 23)).below hb6 (by simp; omega)
            have bR6 := (((bR5.set 1 (.int .i64 ql)).set 2 (.int .i64 qh)).alloc (Obj.cells (rlC ⟨qc, ql, qh, qz⟩).toArray 23)).below hb6 (by simp; omega)
            have hA6 := ((below_at (below_at hA5 hA2.size 1 (.int .i64 ql)) hA2.size 2 (.int .i64 qh)).alloc (by simpa using hA5.size) (Obj.cells (rlC ⟨qc, ql, qh, qz⟩).toArray 23)).trans (hb6.mono (by simp; omega))
            obtain ⟨cC0, cC1, cC2, cC3⟩ := bC6.cells4
            obtain ⟨fC0, fC1, fC2, fC3⟩ := bC6.frozen4
            replace bR6 : Box w6 w2.heap.size 23 [.int .i64 (0), .int .i64 ql, .int .i64 qh, .int .i64 (0)] := bR6
            clear cR0 cR1 cR2 cR3 fR0 fR1 fR2 fR3
            obtain ⟨cR0, cR1, cR2, cR3⟩ := bR6.cells4
            have hs6 := hb6.size
            go_wp2
            refine bodyPost_ret (results_row_tmp rfl _ _ (w.heap.size + 1 + 1) _ _ _ _ rfl (by exact bC6.four _ _ _ _) Try.underlying23 rfl (by kernel_rfl)) rfl ?_
            refine ⟨?_, below_set4 hA6 (by omega) _ _ _ _⟩
            exact ret_two (by rw [HR.out, HJN.out.2]; rfl) (val_int (by rw [HK.out, HJN.out.1]))
    · have HJ := Lib.hid (jn_bad (a := ⟨ac, al, ah, az⟩) (b := ⟨bc, bl, bh, bz⟩) (fun h => hb h.2))
      have HV := Lib.hid hb
      clear hb
      go_wp2_with fail
      refine (ref_RollMay ⟨bc, bl, bh, bz⟩ false _ (by simp; exact HV.out)).mono ?_
      rintro e w4 ⟨rfl, hb4⟩
      have bC4 := bC1.below hb4 bC1.lt
      have hA4 := hA1.trans (hb4.mono hA1.size)
      clear cB0 cB1 cB2 cB3
      obtain ⟨fC0, fC1, fC2, fC3⟩ := bC4.frozen4
      obtain ⟨cC0, cC1, cC2, cC3⟩ := bC4.cells4
      have hs4 := hb4.size
      go_wp2
      refine bodyPost_ret (results_row_tmp rfl _ _ (w.heap.size + 1 + 1) _ _ _ _ rfl (by exact bC4.four _ _ _ _) Try.underlying23 rfl (by kernel_rfl)) rfl ?_
      refine ⟨?_, below_set4 hA4 (by omega) _ _ _ _⟩
      exact ret_two (by rw [HR.out, HJ.out.2]; rfl) (val_int (by rw [HK.out, HJ.out.1]))
  · have HJ := Lib.hid (jn_bad (a := ⟨ac, al, ah, az⟩) (b := ⟨bc, bl, bh, bz⟩) (fun h => ha h.1))
    have HV := Lib.hid ha
    clear ha
    go_enter Try.func5, Try.ntmps5
    go_wp2_with fail
    refine (ref_RollMay ⟨ac, al, ah, az⟩ false _ (by simp; exact HV.out)).mono ?_
    rintro e w4 ⟨rfl, hb4⟩
    replace hb4 : Below w0.heap.size w0 w4 := by rw [← hw]; exact hb4
    have bC4 := bC.below hb4 bC.lt
    have hA4 := hA.trans (hb4.mono hA.size)
    obtain ⟨fC0, fC1, fC2, fC3⟩ := bC4.frozen4
    obtain ⟨cC0, cC1, cC2, cC3⟩ := bC4.cells4
    have hs4 := hb4.size
    go_wp2
    refine bodyPost_ret (results_row_tmp rfl _ _ (w.heap.size + 1 + 1) _ _ _ _ rfl (by exact bC4.four _ _ _ _) Try.underlying23 rfl (by kernel_rfl)) rfl ?_
    refine ⟨?_, below_set4 hA4 (by omega) _ _ _ _⟩
    exact ret_two (by rw [HR.out, HJ.out.2]; rfl) (val_int (by rw [HK.out, HJ.out.1]))
end Go.Proofs.Ytnpabbinckcbaaa
