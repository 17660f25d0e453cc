/- What package adler does. No statement of the seat is proved here; no condition. -/
import Derived.Test.YtadlkecodlhaaaaRows
import Derived.Test.YtadlkecodlhaaaaLibBox
import Derived.Test.YtadlkecodlhaaaaAdlerPure
set_option linter.unusedSimpArgs false
set_option linter.unusedVariables false
namespace Go.Proofs.Ytadlkecodlhaaaa
open Go.RowKit Go.Ord Go.Baro

theorem tmod_red (a : Int) : (if a.tmod 65521 < 0 then a.tmod 65521 + 65521 else a.tmod 65521) = a % 65521 := by
  have h1 := Int.tmod_eq_emod (a := a) (b := 65521)
  rw [h1]
  split <;> split <;> simp at * <;> omega
theorem adler_reduce (a : Int) (w : World) :
    Calls Try.prog 19 #[.int .i64 a] w fun e w' => (∃ r, e = .returned (.int .i64 r) ∧ Hid (r = a % 65521) ∧ 0 ≤ r ∧ r < 65521) ∧ w = w' := by
  have HT := Lib.hid (tmod_red a)
  have hb1 : -65521 < a.tmod 65521 := Int.lt_tmod_of_pos a (by decide)
  have hb2 : a.tmod 65521 < 65521 := Int.tmod_lt_of_pos a (by decide)
  by_cases h : a.tmod 65521 < 0
  · go_enter Try.func19, Try.ntmps19
    go_wp2
    go_ret
    have := HT.out
    rw [if_pos h] at this
    exact ⟨⟨_, rfl, this, by omega, by omega⟩, rfl⟩
  · go_enter Try.func19, Try.ntmps19
    go_wp2
    go_ret
    have := HT.out
    rw [if_neg (by omega)] at this
    exact ⟨⟨_, rfl, this, by omega, by omega⟩, rfl⟩

theorem adler_join (s t : Int) (w : World) (h : okU (s, t)) :
    Calls Try.prog 17 #[.agg #[.int .i64 s, .int .i64 t]] w fun e w' => e = .returned (.int .i64 (adJ (s, t))) ∧ Below w.heap.size w w' := by
  unfold okU at h
  obtain ⟨⟨h1, h2⟩, h3, h4⟩ := h
  dsimp only at h1 h2 h3 h4
  go_enter Try.func17, Try.ntmps17
  go_wp2
  go_ret
  exact ⟨rfl, (Below.refl _ _).alloc (Nat.le_refl _) _⟩

set_option maxHeartbeats 1000000 in
theorem adler_add (l : List Int) (A : Option Addr) (n c : Nat) (s t : Int) (w : World) (hb : RI w w.heap.size .u8 A n l) (hr : ∀ x ∈ l, 0 ≤ x ∧ x < 256) (hn : n ≤ 140737488355328) (h : okU (s, t)) :
    Calls Try.prog 16 #[.agg #[.int .i64 s, .int .i64 t], .slice A n c] w fun e w' => (∃ S T, e = .returned (.agg #[.int .i64 S, .int .i64 T]) ∧ Hid ((S, T) = adL (s, t) l) ∧ okU (S, T)) ∧ Below w.heap.size w w' := by
  have HL := Lib.hid hb.len
  have HR := Lib.hid hr
  clear hr
  go_enter Try.func16, Try.ntmps16
  go_wp2
  go_loopw [9] (fun i wr => ∃ (j : Nat) (S T : Int), j ≤ n ∧ i = .int .i64 j ∧ okU (S, T) ∧ Hid ((S, T) = adL (s, t) (l.take j)) ∧
      Box wr w.heap.size 37 [.int .i64 S, .int .i64 T] ∧ Box wr (w.heap.size + 1) 37 [.int .i64 0, .int .i64 0] ∧ Below w.heap.size w wr) (fun i _ => n - (intOf i).toNat)
  case atStart =>
    refine ⟨0, s, t, Nat.zero_le _, rfl, h, rfl, (Box.new w _ _).alloc _, ?_, ((Below.refl _ _).alloc (Nat.le_refl _) _).alloc (by simp) _⟩
    have := Box.new (w.alloc (.cells #[.int .i64 s, .int .i64 t] 37)) 37 [.int .i64 0, .int .i64 0]
    simpa using this
  case round =>
    obtain ⟨j, S, T, hj, rfl, hok, HE, hbx, hbz, hbel⟩ := hrel
    have hlt0 := hbx.lt
    have hlt1 := hbz.lt
    have hc0 : wr.cell? ⟨w.heap.size, 0, none⟩ = some (.int .i64 S) := hbx.cell 0
    have hc1 : wr.cell? ⟨w.heap.size, 1, none⟩ = some (.int .i64 T) := hbx.cell 1
    have hf0 := hbx.frozen 0
    have hf1 := hbx.frozen 1
    by_cases hlt : j < n
    · obtain ⟨b, o, x, rfl, _, hcell, HX, hmem⟩ := (hb.below hbel).val hlt
      have hx := HR.out x hmem
      unfold okU at hok
      obtain ⟨⟨q1, q2⟩, q3, q4⟩ := hok
      dsimp only at q1 q2 q3 q4
      go_wp2_with fail
      refine (adler_reduce _ _).mono ?_
      rintro e w1 ⟨⟨S1, rfl, HS, s1, s2⟩, rfl⟩
      go_wp2_with fail
      refine (adler_reduce _ _).mono ?_
      rintro e w1 ⟨⟨T1, rfl, HT, t1, t2⟩, rfl⟩
      go_wp2
      have hg2 : wr.grownBy ((wr.setCell ⟨w.heap.size, 0, none⟩ (.int .i64 S1)).setCell ⟨w.heap.size, 1, none⟩ (.int .i64 T1)) (some w.heap.size) := grown_trans (grown_setCell wr ⟨w.heap.size, 0, none⟩ _) (grown_setCell _ ⟨w.heap.size, 1, none⟩ _)
      refine ⟨⟨j + 1, S1, T1, by omega, by go_num, ⟨⟨s1, s2⟩, t1, t2⟩, ?_, hbx.two _ _, hbz.grown hg2 (by simp), below_set hbel hg2 (Nat.le_refl _) (by omega)⟩, by simp [intOf]; omega⟩
      show _ = _
      rw [adL_take _ HX.out, ← HE.out]
      unfold ad1
      dsimp only
      rw [← HS.out, ← HT.out]
    · have hz0 : wr.cell? ⟨w.heap.size + 1, 0, none⟩ = some (.int .i64 0) := hbz.cell 0
      have hz1 : wr.cell? ⟨w.heap.size + 1, 1, none⟩ = some (.int .i64 0) := hbz.cell 1
      have hg0 := hbz.frozen 0
      have hg1 := hbz.frozen 1
      go_wp2
      refine bodyPost_ret (results_cell_row rfl _ _ (w.heap.size + 1) _ _ _ _ rfl (hbz.two (.int .i64 S) (.int .i64 T)) Try.underlying37 rfl (by kernel_rfl)) rfl ?_
      refine ⟨⟨S, T, rfl, ?_, hok⟩, ?_⟩
      · show _ = _
        rw [HE.out, List.take_of_length_le (by rw [HL.out]; omega)]
      · exact below_set hbel (grown_trans (grown_setCell wr ⟨w.heap.size + 1, 0, none⟩ _) (grown_setCell _ ⟨w.heap.size + 1, 1, none⟩ _)) (by show _ ≤ w.heap.size + 1; omega) (by omega)

theorem split_ok {s : Int} (h : okS s) : s.tmod 65536 = s % 65536 ∧ s.tdiv 65536 = s / 65536 := by
  unfold okS at h
  exact ⟨Int.tmod_eq_emod_of_nonneg h.1, Int.tdiv_eq_ediv_of_nonneg h.1⟩
theorem adler_split (s : Int) (w : World) (h : okS s) :
    Calls Try.prog 18 #[.int .i64 s] w fun e w' => e = .returned (.tuple #[.agg #[.int .i64 (s % 65536), .int .i64 (s / 65536)], .int .i64 0]) ∧ Below w.heap.size w w' := by
  unfold okS at h
  obtain ⟨h1, h2, h3⟩ := h
  go_enter Try.func18, Try.ntmps18
  go_wp2
  refine bodyPost_ret (results_row_tmp rfl _ _ w.heap.size _ _ _ _ rfl ((Box.new w _ _).alloc _) Try.underlying37 rfl (by kernel_rfl)) rfl ?_
  exact ⟨rfl, ((Below.refl _ _).alloc (Nat.le_refl _) _).alloc (by simp) _⟩
theorem adler_splitX (s : Int) (w : World) (h : ¬ okS s) (r0 : -9223372036854775808 ≤ s) (r1 : s ≤ 9223372036854775807) :
    Calls Try.prog 18 #[.int .i64 s] w fun e w' => e = .returned (.tuple #[.agg #[.int .i64 0, .int .i64 0], .int .i64 2]) ∧ Below w.heap.size w w' := by
  unfold okS at h
  by_cases h1 : s < 0
  · go_enter Try.func18, Try.ntmps18
    go_wp2
    refine bodyPost_ret (results_row_tmp rfl _ _ w.heap.size _ _ _ _ rfl ((Box.new w _ _).alloc _) Try.underlying37 rfl (by kernel_rfl)) rfl ?_
    exact ⟨rfl, ((Below.refl _ _).alloc (Nat.le_refl _) _).alloc (by simp) _⟩
  by_cases h2 : s % 65536 < 65521
  · go_enter Try.func18, Try.ntmps18
    go_wp2
    refine bodyPost_ret (results_row_tmp rfl _ _ w.heap.size _ _ _ _ rfl ((Box.new w _ _).alloc _) Try.underlying37 rfl (by kernel_rfl)) rfl ?_
    exact ⟨rfl, ((Below.refl _ _).alloc (Nat.le_refl _) _).alloc (by simp) _⟩
  · go_enter Try.func18, Try.ntmps18
    go_wp2
    refine bodyPost_ret (results_row_tmp rfl _ _ w.heap.size _ _ _ _ rfl ((Box.new w _ _).alloc _) Try.underlying37 rfl (by kernel_rfl)) rfl ?_
    exact ⟨rfl, ((Below.refl _ _).alloc (Nat.le_refl _) _).alloc (by simp) _⟩

theorem adler_Of (l : List Int) (A : Option Addr) (n c : Nat) (w : World) (hb : RI w w.heap.size .u8 A n l) (hr : ∀ x ∈ l, 0 ≤ x ∧ x < 256) (hn : n ≤ 140737488355328) :
    Calls Try.prog 10 #[.slice A n c] w fun e w' => e = .returned (.int .i64 (adO l)) ∧ Below w.heap.size w w' := by
  go_enter Try.func10, Try.ntmps10
  go_wp2_with fail
  refine (adler_add l A n c 1 0 _ hb hr hn one_ok).mono ?_
  rintro e w1 ⟨⟨S, T, rfl, HE, hok⟩, hb1⟩
  go_wp2_with fail
  refine (adler_join S T _ hok).mono ?_
  rintro e w2 ⟨rfl, hb2⟩
  go_wp2
  go_ret
  exact ⟨ret_int (by unfold adO; rw [HE.out]), hb1.trans (hb2.mono hb1.size)⟩

theorem adler_More (s : Int) (l : List Int) (A : Option Addr) (n c : Nat) (w : World) (hb : RI w w.heap.size .u8 A n l) (hr : ∀ x ∈ l, 0 ≤ x ∧ x < 256) (hn : n ≤ 140737488355328) (r0 : -9223372036854775808 ≤ s) (r1 : s ≤ 9223372036854775807) :
    Calls Try.prog 11 #[.int .i64 s, .slice A n c] w fun e w' => e = .returned (.tuple #[.int .i64 (moR s l), .int .i64 (moC s)]) ∧ Below w.heap.size w w' := by
  by_cases h : okS s
  · have HM := Lib.hid (mo_in h l)
    go_enter Try.func11, Try.ntmps11
    go_wp2_with fail
    refine (adler_split s _ h).mono ?_
    rintro e w1 ⟨rfl, hb1⟩
    go_wp2_with fail
    refine (adler_add l A n c _ _ _ (((hb.below hb1).below ((Below.refl _ _).alloc hb1.size _)).more (by simp; have := hb1.size; omega)) hr hn (okU_of h)).mono ?_
    rintro e w2 ⟨⟨S, T, rfl, HE, hok⟩, hb2⟩
    go_wp2_with fail
    refine (adler_join S T _ hok).mono ?_
    rintro e w3 ⟨rfl, hb3⟩
    go_wp2
    go_ret2
    have hb4 : Below w.heap.size w w2 := (hb1.alloc hb1.size _).trans (hb2.mono (by simp; have := hb1.size; omega))
    refine ⟨ret_two (val_int ?_) (val_int HM.out.2.symm), hb4.trans (hb3.mono hb4.size)⟩
    rw [HM.out.1, HE.out]
    rfl
  · have HM := Lib.hid (mo_out h l)
    go_enter Try.func11, Try.ntmps11
    go_wp2_with fail
    refine (adler_splitX s _ h r0 r1).mono ?_
    rintro e w1 ⟨rfl, hb1⟩
    go_wp2
    go_ret2
    exact ⟨ret_two (val_int HM.out.1.symm) (val_int HM.out.2.symm), hb1.alloc hb1.size _⟩

set_option maxHeartbeats 1000000 in
theorem adler_Slide (s n o i : Int) (w : World) (r0 : -9223372036854775808 ≤ s) (r1 : s ≤ 9223372036854775807) (ho : 0 ≤ o ∧ o < 256) (hi : 0 ≤ i ∧ i < 256) (n0 : -9223372036854775808 ≤ n) (n1 : n ≤ 9223372036854775807) :
    Calls Try.prog 12 #[.int .i64 s, .int .i64 n, .int .u8 o, .int .u8 i] w fun e w' => e = .returned (.tuple #[.int .i64 (slR s n o i), .int .i64 (slC s n)]) ∧ Below w.heap.size w w' := by
  by_cases h : okS s
  · have hU := okU_of h
    unfold okU adU at hU
    obtain ⟨⟨u1, u2⟩, u3, u4⟩ := hU
    dsimp only at u1 u2 u3 u4
    by_cases h' : okN n
    · have HM := Lib.hid (sl_in h h' o i)
      unfold okN at h'
      have hp0 : 0 ≤ n * o := Int.mul_nonneg (by omega) ho.1
      have hp1 : n * o ≤ 1048576 * 255 := Int.mul_le_mul h'.2 (by omega) ho.1 (by decide)
      go_enter Try.func12, Try.ntmps12
      go_wp2_with fail
      refine (adler_split s _ h).mono ?_
      rintro e w1 ⟨rfl, hb1⟩
      go_wp2_with fail
      refine (adler_reduce _ _).mono ?_
      rintro e w2 ⟨⟨S1, rfl, HS, s1, s2⟩, rfl⟩
      go_wp2_with fail
      refine (adler_reduce _ _).mono ?_
      rintro e w2 ⟨⟨T1, rfl, HT, t1, t2⟩, rfl⟩
      go_wp2_with fail
      refine (adler_join S1 T1 _ ⟨⟨s1, s2⟩, t1, t2⟩).mono ?_
      rintro e w3 ⟨rfl, hb3⟩
      go_wp2
      go_ret2
      refine ⟨ret_two (val_int ?_) (val_int HM.out.2.symm), (hb1.alloc hb1.size _).trans (hb3.mono (by simp; have := hb1.size; omega))⟩
      rw [HM.out.1]
      unfold slU adU
      dsimp only
      rw [← HS.out, ← HT.out]
    · have HM := Lib.hid (sl_out (s := s) (n := n) (fun q => h' q.2) o i)
      unfold okN at h'
      by_cases hn1 : n < 1
      · go_enter Try.func12, Try.ntmps12
        go_wp2_with fail
        refine (adler_split s _ h).mono ?_
        rintro e w1 ⟨rfl, hb1⟩
        go_wp2
        go_ret2
        exact ⟨ret_two (val_int HM.out.1.symm) (val_int HM.out.2.symm), hb1.alloc hb1.size _⟩
      · go_enter Try.func12, Try.ntmps12
        go_wp2_with fail
        refine (adler_split s _ h).mono ?_
        rintro e w1 ⟨rfl, hb1⟩
        go_wp2
        go_ret2
        exact ⟨ret_two (val_int HM.out.1.symm) (val_int HM.out.2.symm), hb1.alloc hb1.size _⟩
  · have HM := Lib.hid (sl_out (s := s) (n := n) (fun q => h q.1) o i)
    go_enter Try.func12, Try.ntmps12
    go_wp2_with fail
    refine (adler_splitX s _ h r0 r1).mono ?_
    rintro e w1 ⟨rfl, hb1⟩
    go_wp2
    go_ret2
    exact ⟨ret_two (val_int HM.out.1.symm) (val_int HM.out.2.symm), hb1.alloc hb1.size _⟩
end Go.Proofs.Ytadlkecodlhaaaa
