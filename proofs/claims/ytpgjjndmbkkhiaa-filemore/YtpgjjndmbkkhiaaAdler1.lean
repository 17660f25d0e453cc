/- What package adler does. No statement of the seat is proved here; no condition. -/
import Derived.Test.YtpgjjndmbkkhiaaRows
import Derived.Test.YtpgjjndmbkkhiaaLibBox
import Derived.Test.YtpgjjndmbkkhiaaAdlerPure
set_option linter.unusedSimpArgs false
set_option linter.unusedVariables false
namespace Go.Proofs.Ytpgjjndmbkkhiaa
open Go.RowKit Go.Ord Go.Baro

theorem tmod_red (a : Int) : (if a.tmod 65521 < 0 then a.tmod 65521 + 65521 else a.tmod 65521) = a % 65521 := by
  have h1 := Int.tmod_eq_emod (a := a) (b := 65521)
  rw [h1]
  split <;> split <;> simp at * <;> omega
theorem adler_reduce (a : Int) (w : World) :
    Calls Try.prog 27 #[.int .i64 a] w fun e w' => (∃ r, e = .returned (.int .i64 r) ∧ Hid (r = a % 65521) ∧ 0 ≤ r ∧ r < 65521) ∧ w = w' := by
  have HT := Lib.hid (tmod_red a)
  have hb1 : -65521 < a.tmod 65521 := Int.lt_tmod_of_pos a (by decide)
  have hb2 : a.tmod 65521 < 65521 := Int.tmod_lt_of_pos a (by decide)
  by_cases h : a.tmod 65521 < 0
  · go_enter Try.func27, Try.ntmps27
    go_wp2
    go_ret
    have := HT.out
    rw [if_pos h] at this
    exact ⟨⟨_, rfl, this, by omega, by omega⟩, rfl⟩
  · go_enter Try.func27, Try.ntmps27
    go_wp2
    go_ret
    have := HT.out
    rw [if_neg (by omega)] at this
    exact ⟨⟨_, rfl, this, by omega, by omega⟩, rfl⟩

theorem adler_join (s t : Int) (w : World) (h : okU (s, t)) :
    Calls Try.prog 25 #[.agg #[.int .i64 s, .int .i64 t]] w fun e w' => e = .returned (.int .i64 (adJ (s, t))) ∧ Below w.heap.size w w' := by
  unfold okU at h
  obtain ⟨⟨h1, h2⟩, h3, h4⟩ := h
  dsimp only at h1 h2 h3 h4
  go_enter Try.func25, Try.ntmps25
  go_wp2
  go_ret
  exact ⟨rfl, (Below.refl _ _).alloc (Nat.le_refl _) _⟩

set_option maxHeartbeats 1000000 in
theorem adler_add (l : List Int) (A : Option Addr) (n c : Nat) (s t : Int) (w : World) (hb : RI w w.heap.size .u8 A n l) (hr : ∀ x ∈ l, 0 ≤ x ∧ x < 256) (hn : n ≤ 140737488355328) (h : okU (s, t)) :
    Calls Try.prog 24 #[.agg #[.int .i64 s, .int .i64 t], .slice A n c] w fun e w' => (∃ S T, e = .returned (.agg #[.int .i64 S, .int .i64 T]) ∧ Hid ((S, T) = adL (s, t) l) ∧ okU (S, T)) ∧ Below w.heap.size w w' := by
  have HL := Lib.hid hb.len
  have HR := Lib.hid hr
  clear hr
  go_enter Try.func24, Try.ntmps24
  go_wp2
  go_loopw [9] (fun i wr => ∃ (j : Nat) (S T : Int), j ≤ n ∧ i = .int .i64 j ∧ okU (S, T) ∧ Hid ((S, T) = adL (s, t) (l.take j)) ∧
      Box wr w.heap.size 44 [.int .i64 S, .int .i64 T] ∧ Box wr (w.heap.size + 1) 44 [.int .i64 0, .int .i64 0] ∧ Below w.heap.size w wr) (fun i _ => n - (intOf i).toNat)
  case atStart =>
    refine ⟨0, s, t, Nat.zero_le _, rfl, h, rfl, (Box.new w _ _).alloc _, ?_, ((Below.refl _ _).alloc (Nat.le_refl _) _).alloc (by simp) _⟩
    have := Box.new (w.alloc (.cells #[.int .i64 s, .int .i64 t] 44)) 44 [.int .i64 0, .int .i64 0]
    simpa using this
  case round =>
    obtain ⟨j, S, T, hj, rfl, hok, HE, hbx, hbz, hbel⟩ := hrel
    have hlt0 := hbx.lt
    have hlt1 := hbz.lt
    have hc0 : wr.cell? ⟨w.heap.size, 0, none⟩ = some (.int .i64 S) := hbx.cell 0
    have hc1 : wr.cell? ⟨w.heap.size, 1, none⟩ = some (.int .i64 T) := hbx.cell 1
    have hf0 := hbx.frozen 0
    have hf1 := hbx.frozen 1
    by_cases hlt : j < n
    · obtain ⟨b, o, x, rfl, _, hcell, HX, hmem⟩ := (hb.below hbel).val hlt
      have hx := HR.out x hmem
      unfold okU at hok
      obtain ⟨⟨q1, q2⟩, q3, q4⟩ := hok
      dsimp only at q1 q2 q3 q4
      go_wp2_with fail
      refine (adler_reduce _ _).mono ?_
      rintro e w1 ⟨⟨S1, rfl, HS, s1, s2⟩, rfl⟩
      go_wp2_with fail
      refine (adler_reduce _ _).mono ?_
      rintro e w1 ⟨⟨T1, rfl, HT, t1, t2⟩, rfl⟩
      go_wp2
      have hg2 : wr.grownBy ((wr.setCell ⟨w.heap.size, 0, none⟩ (.int .i64 S1)).setCell ⟨w.heap.size, 1, none⟩ (.int .i64 T1)) (some w.heap.size) := grown_trans (grown_setCell wr ⟨w.heap.size, 0, none⟩ _) (grown_setCell _ ⟨w.heap.size, 1, none⟩ _)
      refine ⟨⟨j + 1, S1, T1, by omega, by go_num, ⟨⟨s1, s2⟩, t1, t2⟩, ?_, hbx.two _ _, hbz.grown hg2 (by simp), below_set hbel hg2 (Nat.le_refl _) (by omega)⟩, by simp [intOf]; omega⟩
      show _ = _
      rw [adL_take _ HX.out, ← HE.out]
      unfold ad1
      dsimp only
      rw [← HS.out, ← HT.out]
    · have hz0 : wr.cell? ⟨w.heap.size + 1, 0, none⟩ = some (.int .i64 0) := hbz.cell 0
      have hz1 : wr.cell? ⟨w.heap.size + 1, 1, none⟩ = some (.int .i64 0) := hbz.cell 1
      have hg0 := hbz.frozen 0
      have hg1 := hbz.frozen 1
      go_wp2
      refine bodyPost_ret (results_cell_row rfl _ _ (w.heap.size + 1) _ _ _ _ rfl (hbz.two (.int .i64 S) (.int .i64 T)) Try.underlying44 rfl (by kernel_rfl)) rfl ?_
      refine ⟨⟨S, T, rfl, ?_, hok⟩, ?_⟩
      · show _ = _
        rw [HE.out, List.take_of_length_le (by rw [HL.out]; omega)]
      · exact below_set hbel (grown_trans (grown_setCell wr ⟨w.heap.size + 1, 0, none⟩ _) (grown_setCell _ ⟨w.heap.size + 1, 1, none⟩ _)) (by show _ ≤ w.heap.size + 1; omega) (by omega)

theorem adler_Of (l : List Int) (A : Option Addr) (n c : Nat) (w : World) (hb : RI w w.heap.size .u8 A n l) (hr : ∀ x ∈ l, 0 ≤ x ∧ x < 256) (hn : n ≤ 140737488355328) :
    Calls Try.prog 19 #[.slice A n c] w fun e w' => e = .returned (.int .i64 (adO l)) ∧ Below w.heap.size w w' := by
  go_enter Try.func19, Try.ntmps19
  go_wp2_with fail
  refine (adler_add l A n c 1 0 _ hb hr hn one_ok).mono ?_
  rintro e w1 ⟨⟨S, T, rfl, HE, hok⟩, hb1⟩
  go_wp2_with fail
  refine (adler_join S T _ hok).mono ?_
  rintro e w2 ⟨rfl, hb2⟩
  go_wp2
  go_ret
  exact ⟨ret_int (by unfold adO; rw [HE.out]), hb1.trans (hb2.mono hb1.size)⟩
end Go.Proofs.Ytpgjjndmbkkhiaa
