/- What the functions of package roll do with rolls. No statement of the seat is proved here; no condition. -/
import Derived.Test.YtnpabbinckcbaaaDoorRows
import Derived.Test.YtnpabbinckcbaaaDoorLib
import Derived.Test.YtnpabbinckcbaaaDoorLibBox
import Derived.Test.YtnpabbinckcbaaaDoorRollPure
set_option linter.unusedSimpArgs false
set_option linter.unusedVariables false
namespace Go.Proofs.YtnpabbinckcbaaaDoor
open Go.RowKit Go.Ord Go.Baro

set_option maxHeartbeats 1000000 in
theorem roll_within (lo hi : Int) (xs : List Int) (A : Option Addr) (n c : Nat) (w : World) (B : Nat) (r : Bool) (hb : RI w B .i64 A n xs) (hn : n ≤ 8) (hr : r = true ↔ ∀ x ∈ xs, lo ≤ x ∧ x ≤ hi) :
    Calls Tryd.prog 21 #[.int .i64 lo, .int .i64 hi, .slice A n c] w fun e w' => e = .returned (.bool r) ∧ w = w' := by
  have HL := Lib.hid hb.len
  have HR := Lib.hid hr
  clear hr
  go_enter Tryd.func21, Tryd.ntmps21
  go_wp2
  go_loop [11] (fun i => ∃ j : Nat, j ≤ n ∧ i = .int .i64 j ∧ Hid (∀ x ∈ xs.take j, lo ≤ x ∧ x ≤ hi)) (fun i => n - (intOf i).toNat)
  case atStart => exact ⟨0, Nat.zero_le _, rfl, by simp [Hid]⟩
  case round =>
    obtain ⟨j, hj, rfl, HC⟩ := hrel
    by_cases hlt : j < n
    · obtain ⟨b, o, x, rfl, _, hcell, HX, hmem⟩ := hb.val hlt
      by_cases h1 : x < lo
      · go_wp2
        go_ret
        refine ⟨ret_bool ?_, rfl⟩
        cases r with
        | false => rfl
        | true => have := HR.out.1 rfl x hmem; omega
      · by_cases h2 : hi < x
        · go_wp2
          go_ret
          refine ⟨ret_bool ?_, rfl⟩
          cases r with
          | false => rfl
          | true => have := HR.out.1 rfl x hmem; omega
        · go_wp2
          go_round
          case rel =>
            refine ⟨j + 1, by omega, by go_num, ?_⟩
            show ∀ y ∈ _, _
            rw [at_take HX.out]
            intro y hy
            rcases List.mem_append.1 hy with hy | hy
            · exact HC.out y hy
            · simp at hy; omega
          case measure => simp [intOf]; omega
    · go_wp2
      go_ret
      refine ⟨ret_bool ?_, rfl⟩
      have he := HC.out
      rw [List.take_of_length_le (by rw [HL.out]; omega)] at he
      exact (HR.out.2 he).symm

theorem heap_at (w : World) (o : Obj) (g : Nat) (hg : g = w.heap.size) : (w.alloc o).heap[g]? = some o := by subst hg; exact heap_alloc_new w o
theorem ret_four {a b c d a' b' c' d' : Int} (h1 : a = a') (h2 : b = b') (h3 : c = c') (h4 : d = d') : Ending.returned (.agg #[.int .i64 a, .int .i64 b, .int .i64 c, .int .i64 d]) = .returned (.agg #[.int .i64 a', .int .i64 b', .int .i64 c', .int .i64 d']) := by rw [h1, h2, h3, h4]
theorem RI_lit (w : World) (e : TypeId) (k : IntKind) (xs : List Int) (n g : Nat) (hg : g = w.heap.size) (hn : xs.length = n) :
    RI (w.alloc (.cells (xs.map (Value.int k)).toArray e)) (g + 1) k (some ⟨g, 0, none⟩) n xs := by
  subst hg
  have h := Rd.lit w e (cs := xs.map (Value.int k)) (s := 1) (n := n) (by simp [hn])
  rw [show (w.alloc (.cells (xs.map (Value.int k)).toArray e)).heap.size = w.heap.size + 1 by simp] at h
  exact h

set_option maxHeartbeats 1000000 in
theorem roll_valid (q : Rl) (r : Bool) (w : World) (hr : r = true ↔ okRl q) :
    Calls Tryd.prog 24 #[rlV q] w fun e w' => e = .returned (.bool r) ∧ Below w.heap.size w w' := by
  obtain ⟨c, lo, hi, s⟩ := q
  have HR := Lib.hid hr
  clear hr
  unfold rlV
  dsimp only
  have h0 : Below w.heap.size w w := Below.refl _ _
  by_cases hc : c = 0
  · subst hc
    have H1 := Lib.hid (okRl_zero (r := ⟨0, lo, hi, s⟩) rfl)
    go_enter Tryd.func24, Tryd.ntmps24
    go_wp2_with fail
    refine (roll_within 0 0 [lo, hi, s] _ _ _ _ _ r (RI_lit _ _ .i64 [lo, hi, s] 3 _ (by simp) rfl) (by omega) ?_).mono ?_
    · rw [HR.out, H1.out]
      simp
      constructor
      · rintro ⟨rfl, rfl, rfl⟩; simp
      · rintro ⟨h1, h2, h3⟩; omega
    rintro e w' ⟨rfl, rfl⟩
    go_wp2
    go_ret
    exact ⟨rfl, (h0.alloc (Nat.le_refl _) _).alloc (by simp) _⟩
  · have H1 := Lib.hid (okRl_pos (r := ⟨c, lo, hi, s⟩) hc)
    have hcb : (c == 0) = false := by simp [hc]
    by_cases h1 : 1 ≤ c ∧ c ≤ 1048576
    · by_cases h2 : N61 lo ∧ N61 hi ∧ N61 s
      · go_enter Tryd.func24, Tryd.ntmps24
        go_wp2_with fail
        refine (roll_within 1 1048576 [c] _ _ _ _ _ true (RI_lit _ _ .i64 [c] 1 _ (by simp) rfl) (by omega) (by simp; omega)).mono ?_
        rintro e w' ⟨rfl, rfl⟩
        go_wp2_with fail
        refine (roll_within (-2305843009213693952) 2305843009213693951 [lo, hi, s] _ _ _ _ _ true (RI_lit _ _ .i64 [lo, hi, s] 3 _ (by simp) rfl) (by omega) (by unfold N61 at h2; simp; omega)).mono ?_
        rintro e w' ⟨rfl, rfl⟩
        go_wp2
        go_ret
        refine ⟨ret_bool ?_, ((h0.alloc (Nat.le_refl _) _).alloc (by simp) _).alloc (by simp; omega) _⟩
        have hk : r = true ↔ lo ≤ hi := ⟨fun h => (H1.out.1 (HR.out.1 h)).2.2, fun h3 => HR.out.2 (H1.out.2 ⟨h1, h2, h3⟩)⟩
        cases r <;> simp at hk ⊢ <;> omega
      · have H2 := Lib.hid h2
        clear h2
        go_enter Tryd.func24, Tryd.ntmps24
        go_wp2_with fail
        refine (roll_within 1 1048576 [c] _ _ _ _ _ true (RI_lit _ _ .i64 [c] 1 _ (by simp) rfl) (by omega) (by simp; omega)).mono ?_
        rintro e w' ⟨rfl, rfl⟩
        go_wp2_with fail
        refine (roll_within (-2305843009213693952) 2305843009213693951 [lo, hi, s] _ _ _ _ _ false (RI_lit _ _ .i64 [lo, hi, s] 3 _ (by simp) rfl) (by omega) ?_).mono ?_
        · have := H2.out
          unfold N61 at this
          simp
          omega
        rintro e w' ⟨rfl, rfl⟩
        go_wp2
        go_ret
        refine ⟨ret_bool ?_, ((h0.alloc (Nat.le_refl _) _).alloc (by simp) _).alloc (by simp; omega) _⟩
        cases r with
        | false => rfl
        | true => exact absurd (H1.out.1 (HR.out.1 rfl)).2.1 H2.out
    · have H2 := Lib.hid h1
      clear h1
      go_enter Tryd.func24, Tryd.ntmps24
      go_wp2_with fail
      refine (roll_within 1 1048576 [c] _ _ _ _ _ false (RI_lit _ _ .i64 [c] 1 _ (by simp) rfl) (by omega) ?_).mono ?_
      · have := H2.out
        simp
        omega
      rintro e w' ⟨rfl, rfl⟩
      go_wp2
      go_ret
      refine ⟨ret_bool ?_, (h0.alloc (Nat.le_refl _) _).alloc (by simp) _⟩
      cases r with
      | false => rfl
      | true => exact absurd (H1.out.1 (HR.out.1 rfl)).1 H2.out

set_option maxHeartbeats 1000000 in
theorem roll_merge (a b m : Rl) (w : World) (hc : I64 (a.c + b.c)) (hs : I64 (a.s + b.s)) (hm : m = mg a b) :
    Calls Tryd.prog 17 #[rlV a, rlV b] w fun e w' => e = .returned (rlV m) ∧ Below w.heap.size w w' := by
  subst hm
  obtain ⟨ac, al, ah, az⟩ := a
  obtain ⟨bc, bl, bh, bz⟩ := b
  unfold rlV I64 at *
  dsimp only at *
  have h0 : Below w.heap.size w w := Below.refl _ _
  have hbel := (((h0.alloc (Nat.le_refl _) (Obj.cells #[.int .i64 ac, .int .i64 al, .int .i64 ah, .int .i64 az] 24)).alloc (by simp) (Obj.cells #[.int .i64 bc, .int .i64 bl, .int .i64 bh, .int .i64 bz] 24)))
  by_cases h1 : ac = 0
  · subst h1
    have HM := Lib.hid (mg_left (a := ⟨0, al, ah, az⟩) (b := ⟨bc, bl, bh, bz⟩) rfl)
    go_enter Tryd.func17, Tryd.ntmps17
    go_wp2
    refine bodyPost_ret (results_cell_row rfl _ _ (w.heap.size + 2) _ _ _ _ rfl (heap_at _ _ _ (by simp)) Tryd.underlying24 rfl (by kernel_rfl)) rfl ?_
    exact ⟨by rw [HM.out], hbel.alloc (by simp; omega) _⟩
  by_cases h2 : bc = 0
  · subst h2
    have HM := Lib.hid (mg_right (a := ⟨ac, al, ah, az⟩) (b := ⟨0, bl, bh, bz⟩) h1 rfl)
    have hcb : (ac == 0) = false := by simp [h1]
    go_enter Tryd.func17, Tryd.ntmps17
    go_wp2
    refine bodyPost_ret (results_cell_row rfl _ _ (w.heap.size + 2) _ _ _ _ rfl (heap_at _ _ _ (by simp)) Tryd.underlying24 rfl (by kernel_rfl)) rfl ?_
    exact ⟨by rw [HM.out], hbel.alloc (by simp; omega) _⟩
  have HM := Lib.hid (mg_both (a := ⟨ac, al, ah, az⟩) (b := ⟨bc, bl, bh, bz⟩) h1 h2)
  have hcb : (ac == 0) = false := by simp [h1]
  have hcb2 : (bc == 0) = false := by simp [h2]
  go_enter Tryd.func17, Tryd.ntmps17
  go_wp2
  all_goals (
    refine bodyPost_ret (results_cell_row rfl _ _ (w.heap.size + 2) _ _ _ _ rfl (heap_at _ _ _ (by simp)) Tryd.underlying24 rfl (by kernel_rfl)) rfl ?_
    refine ⟨?_, hbel.alloc (by simp; omega) _⟩
    rw [HM.out]
    exact ret_four rfl (by dsimp only; omega) (by dsimp only; omega) rfl)

set_option maxHeartbeats 1000000 in
theorem roll_Join (a b r : Rl) (k : Int) (w : World) (hr : r = jnR a b) (hk : k = jnC a b) :
    Calls Tryd.prog 15 #[rlV a, rlV b] w fun e w' => e = .returned (.tuple #[rlV r, .int .i64 k]) ∧ Below w.heap.size w w' := by
  have h0 : Below w.heap.size w w := Below.refl _ _
  have HR := Lib.hid hr
  have HK := Lib.hid hk
  clear hr hk
  obtain ⟨ac, al, ah, az⟩ := a
  obtain ⟨bc, bl, bh, bz⟩ := b
  have bA := ((Box.newAt w 24 (rlC ⟨ac, al, ah, az⟩) _ rfl).alloc (Obj.cells (rlC ⟨bc, bl, bh, bz⟩).toArray 24)).alloc (Obj.cells (rlC rl0).toArray 24)
  have bB := (Box.newAt (w.alloc (Obj.cells (rlC ⟨ac, al, ah, az⟩).toArray 24)) 24 (rlC ⟨bc, bl, bh, bz⟩) (w.heap.size + 1) (by simp)).alloc (Obj.cells (rlC rl0).toArray 24)
  have bC := Box.newAt ((w.alloc (Obj.cells (rlC ⟨ac, al, ah, az⟩).toArray 24)).alloc (Obj.cells (rlC ⟨bc, bl, bh, bz⟩).toArray 24)) 24 (rlC rl0) (w.heap.size + 1 + 1) (by simp)
  have hA := ((h0.alloc (Nat.le_refl _) (Obj.cells (rlC ⟨ac, al, ah, az⟩).toArray 24)).alloc (by simp) (Obj.cells (rlC ⟨bc, bl, bh, bz⟩).toArray 24)).alloc (by simp; omega) (Obj.cells (rlC rl0).toArray 24)
  generalize hw : ((w.alloc (Obj.cells (rlC ⟨ac, al, ah, az⟩).toArray 24)).alloc (Obj.cells (rlC ⟨bc, bl, bh, bz⟩).toArray 24)).alloc (Obj.cells (rlC rl0).toArray 24) = w0 at bA bB bC hA
  have hs0 : w0.heap.size = w.heap.size + 1 + 1 + 1 := by rw [← hw]; simp
  unfold rlV
  dsimp only
  by_cases ha : okRl ⟨ac, al, ah, az⟩
  · go_enter Tryd.func15, Tryd.ntmps15
    go_wp2_with fail
    refine (roll_valid ⟨ac, al, ah, az⟩ true _ (by simp; exact ha)).mono ?_
    rintro e w1 ⟨rfl, hb1⟩
    replace hb1 : Below w0.heap.size w0 w1 := by rw [← hw]; exact hb1
    have bA1 := bA.below hb1 (by omega)
    have bB1 := bB.below hb1 (by omega)
    have bC1 := bC.below hb1 (by omega)
    have hA1 := hA.trans (hb1.mono hA.size)
    clear bA bB bC hA
    have hs1 := hb1.size
    obtain ⟨cB0, cB1, cB2, cB3⟩ := bB1.cells4
    by_cases hb : okRl ⟨bc, bl, bh, bz⟩
    · go_wp2_with fail
      refine (roll_valid ⟨bc, bl, bh, bz⟩ true _ (by simp; exact hb)).mono ?_
      rintro e w2 ⟨rfl, hb2⟩
      have bA2 := bA1.below hb2 bA1.lt
      have bB2 := bB1.below hb2 bB1.lt
      have bC2 := bC1.below hb2 bC1.lt
      have hA2 := hA1.trans (hb2.mono hA1.size)
      clear bA1 bB1 bC1 hA1 cB0 cB1 cB2 cB3
      have hs2 := hb2.size
      obtain ⟨cA0, cA1, cA2, cA3⟩ := bA2.cells4
      obtain ⟨cB0, cB1, cB2, cB3⟩ := bB2.cells4
      dsimp only at cA0 cA1 cA2 cA3 cB0 cB1 cB2 cB3
      have n1 := okRl_nums ha
      have n2 := okRl_nums hb
      unfold N61 at n1 n2
      dsimp only at n1 n2
      obtain ⟨m, hm⟩ : ∃ m, m = mg ⟨ac, al, ah, az⟩ ⟨bc, bl, bh, bz⟩ := ⟨_, rfl⟩
      obtain ⟨mc, ml, mh, mz⟩ := m
      go_wp2_with fail
      refine (roll_merge ⟨ac, al, ah, az⟩ ⟨bc, bl, bh, bz⟩ ⟨mc, ml, mh, mz⟩ _ (by unfold I64; dsimp only; omega) (by unfold I64; dsimp only; omega) hm).mono ?_
      rintro e w3 ⟨rfl, hb3⟩
      have bC3 := bC2.below hb3 bC2.lt
      have hA3 := hA2.trans (hb3.mono hA2.size)
      clear cA0 cA1 cA2 cA3 cB0 cB1 cB2 cB3
      have hs3 := hb3.size
      unfold rlV
      dsimp only
      by_cases hv : okRl ⟨mc, ml, mh, mz⟩
      · have HJ := Lib.hid (jn_ok ⟨ha, hb⟩ (by rw [← hm]; exact hv))
        rw [← hm] at HJ
        go_wp2_with fail
        refine (roll_valid ⟨mc, ml, mh, mz⟩ true _ (by simp; exact hv)).mono ?_
        rintro e w4 ⟨rfl, hb4⟩
        have bC4 := (bC3.alloc _).below hb4 (bC3.alloc _).lt
        have bD4 := (Box.newAt w3 24 (rlC ⟨mc, ml, mh, mz⟩) _ rfl).below hb4 (by simp)
        have hA4 := (hA3.alloc hA3.size _).trans (hb4.mono (hA3.alloc hA3.size _).size)
        obtain ⟨cD0, cD1, cD2, cD3⟩ := bD4.cells4
        obtain ⟨fC0, fC1, fC2, fC3⟩ := bC4.frozen4
        obtain ⟨cC0, cC1, cC2, cC3⟩ := bC4.cells4
        dsimp only at cD0 cD1 cD2 cD3
        have hs4 := hb4.size
        go_wp2
        refine bodyPost_ret (results_row_tmp rfl _ _ (w.heap.size + 1 + 1) _ _ _ _ rfl (by exact bC4.four _ _ _ _) Tryd.underlying24 rfl (by kernel_rfl)) rfl ?_
        refine ⟨?_, below_set4 hA4 (by omega) _ _ _ _⟩
        exact ret_two (by rw [HR.out, HJ.out.2]) (val_int (by rw [HK.out, HJ.out.1]))
      · have HJ := Lib.hid (jn_over ⟨ha, hb⟩ (by rw [← hm]; exact hv))
        have HV := Lib.hid hv
        clear hv
        go_wp2_with fail
        refine (roll_valid ⟨mc, ml, mh, mz⟩ false _ (by simp; exact HV.out)).mono ?_
        rintro e w4 ⟨rfl, hb4⟩
        have bC4 := (bC3.alloc _).below hb4 (bC3.alloc _).lt
        have hA4 := (hA3.alloc hA3.size _).trans (hb4.mono (hA3.alloc hA3.size _).size)
        obtain ⟨fC0, fC1, fC2, fC3⟩ := bC4.frozen4
        obtain ⟨cC0, cC1, cC2, cC3⟩ := bC4.cells4
        have hs4 := hb4.size
        go_wp2
        refine bodyPost_ret (results_row_tmp rfl _ _ (w.heap.size + 1 + 1) _ _ _ _ rfl (by exact bC4.four _ _ _ _) Tryd.underlying24 rfl (by kernel_rfl)) rfl ?_
        refine ⟨?_, below_set4 hA4 (by omega) _ _ _ _⟩
        exact ret_two (by rw [HR.out, HJ.out.2]; rfl) (val_int (by rw [HK.out, HJ.out.1]))
    · have HJ := Lib.hid (jn_bad (a := ⟨ac, al, ah, az⟩) (b := ⟨bc, bl, bh, bz⟩) (fun h => hb h.2))
      have HV := Lib.hid hb
      clear hb
      go_wp2_with fail
      refine (roll_valid ⟨bc, bl, bh, bz⟩ false _ (by simp; exact HV.out)).mono ?_
      rintro e w4 ⟨rfl, hb4⟩
      have bC4 := bC1.below hb4 bC1.lt
      have hA4 := hA1.trans (hb4.mono hA1.size)
      clear cB0 cB1 cB2 cB3
      obtain ⟨fC0, fC1, fC2, fC3⟩ := bC4.frozen4
      obtain ⟨cC0, cC1, cC2, cC3⟩ := bC4.cells4
      have hs4 := hb4.size
      go_wp2
      refine bodyPost_ret (results_row_tmp rfl _ _ (w.heap.size + 1 + 1) _ _ _ _ rfl (by exact bC4.four _ _ _ _) Tryd.underlying24 rfl (by kernel_rfl)) rfl ?_
      refine ⟨?_, below_set4 hA4 (by omega) _ _ _ _⟩
      exact ret_two (by rw [HR.out, HJ.out.2]; rfl) (val_int (by rw [HK.out, HJ.out.1]))
  · have HJ := Lib.hid (jn_bad (a := ⟨ac, al, ah, az⟩) (b := ⟨bc, bl, bh, bz⟩) (fun h => ha h.1))
    have HV := Lib.hid ha
    clear ha
    go_enter Tryd.func15, Tryd.ntmps15
    go_wp2_with fail
    refine (roll_valid ⟨ac, al, ah, az⟩ false _ (by simp; exact HV.out)).mono ?_
    rintro e w4 ⟨rfl, hb4⟩
    replace hb4 : Below w0.heap.size w0 w4 := by rw [← hw]; exact hb4
    have bC4 := bC.below hb4 bC.lt
    have hA4 := hA.trans (hb4.mono hA.size)
    obtain ⟨fC0, fC1, fC2, fC3⟩ := bC4.frozen4
    obtain ⟨cC0, cC1, cC2, cC3⟩ := bC4.cells4
    have hs4 := hb4.size
    go_wp2
    refine bodyPost_ret (results_row_tmp rfl _ _ (w.heap.size + 1 + 1) _ _ _ _ rfl (by exact bC4.four _ _ _ _) Tryd.underlying24 rfl (by kernel_rfl)) rfl ?_
    refine ⟨?_, below_set4 hA4 (by omega) _ _ _ _⟩
    exact ret_two (by rw [HR.out, HJ.out.2]; rfl) (val_int (by rw [HK.out, HJ.out.1]))

set_option maxHeartbeats 1000000 in
theorem roll_single (t v : Int) (w : World) :
    Calls Tryd.prog 18 #[.agg #[.int .i64 t, .int .i64 v]] w fun e w' => e = .returned (rlV (rl1 v)) ∧ Below w.heap.size w w' := by
  have h0 : Below w.heap.size w w := Below.refl _ _
  go_enter Tryd.func18, Tryd.ntmps18
  go_wp2
  refine bodyPost_ret (results_cell_row rfl _ _ (w.heap.size + 1) _ _ _ _ rfl (heap_at _ _ _ (by simp)) Tryd.underlying24 rfl (by kernel_rfl)) rfl ?_
  exact ⟨rfl, (h0.alloc (Nat.le_refl _) _).alloc (by simp) _⟩
end Go.Proofs.YtnpabbinckcbaaaDoor
