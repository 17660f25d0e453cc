/- What the methods of a chunk's state do. No statement of the seat is proved here; no condition. -/
import Derived.Test.YtnpabbinckcbaaaDoorZig2
import Derived.Test.YtnpabbinckcbaaaDoorLibBox
import Derived.Test.YtnpabbinckcbaaaDoorChunkPure
set_option linter.unusedSimpArgs false
set_option linter.unusedVariables false
namespace Go.Proofs.YtnpabbinckcbaaaDoor
open Go.RowKit Go.Ord Go.Baro

theorem eltSample : Elt Tryd.prog 22 39 (.agg #[.int .i64 0, .int .i64 0]) 2 16 := Elt.mk' Tryd.underlying22 (by kernel_rfl) rfl (by decide)
/-- The cells of a state. -/
def stC (q : St) : List Value := [.int .i64 q.t, .int .i64 q.v, .int .i64 q.s, .bool q.b]
def smV (x : Int × Int) : Value := .agg #[.int .i64 x.1, .int .i64 x.2]

theorem own_box {w w' : World} {base b : Nat} {e t : TypeId} {s n : Nat} {v : Value} {xs cs : List Value} (h : w.ownsRow base e s v n xs) (hb : Box w b t cs) (hne : e ≠ t) (hg : w.grownBy w' (some b)) : w'.ownsRow base e s v n xs :=
  h.kept hg (.inr fun he => hb.ne h hne he.symm)

theorem chunk_inRange (n : Int) (r : Bool) (w : World) (hr : r = true ↔ -36028797018963968 ≤ n ∧ n < 36028797018963968) :
    Calls Tryd.prog 30 #[.int .i64 n] w fun e w' => e = .returned (.bool r) ∧ w = w' := by
  have H := Lib.hid hr
  clear hr
  by_cases h : -36028797018963968 ≤ n
  · go_enter Tryd.func30, Tryd.ntmps30
    go_wp2
    go_ret
    refine ⟨ret_bool ?_, rfl⟩
    have := H.out
    cases r <;> simp at this ⊢ <;> omega
  · go_enter Tryd.func30, Tryd.ntmps30
    go_wp2
    go_ret
    refine ⟨ret_bool ?_, rfl⟩
    have := H.out
    cases r <;> simp at this ⊢ <;> omega

set_option maxHeartbeats 1000000 in
theorem chunk_check (q : St) (t v : Int) (b : Nat) (w : World) (hbox : Box w b 58 (stC q)) :
    Calls Tryd.prog 25 #[.pointer (some ⟨b, 0, none⟩), .agg #[.int .i64 t, .int .i64 v]] w fun e w' => e = .returned (.int .i64 (ck1 q (t, v))) ∧ Below w.heap.size w w' := by
  obtain ⟨T, V, S, s⟩ := q
  have hlt := hbox.lt
  have hc0 : w.cell? ⟨b, 0, none⟩ = some (.int .i64 T) := hbox.cell 0
  have hc3 : w.cell? ⟨b, 3, none⟩ = some (.bool s) := hbox.cell 3
  have h0 : Below w.heap.size w w := Below.refl _ _
  by_cases h1 : -36028797018963968 ≤ t ∧ t < 36028797018963968
  · by_cases h2 : -36028797018963968 ≤ v ∧ v < 36028797018963968
    · cases s with
      | false =>
        have HE := Lib.hid (ck1_ok (q := ⟨T, V, S, false⟩) (x := (t, v)) h1 h2 (fun h => by cases h))
        go_enter Tryd.func25, Tryd.ntmps25
        go_wp2_with (go_at_call 30; refine (chunk_inRange _ true _ (by simp; omega)).mono ?_; rintro e w' ⟨rfl, rfl⟩)
        refine region_two [0, 1, 2, 3, 4, 5, 6, 7, 8, 9, 10, 11, 12, 13] [] (by kernel_rfl) (by kernel_rfl) ?_
        simp only [pick, List.map_cons, List.map_nil, List.getD_cons_zero, List.getD_cons_succ]
        go_wp2
        go_ret
        exact ⟨ret_int HE.out.symm, (h0.alloc (Nat.le_refl _) _).drew⟩
      | true =>
        by_cases h3 : t ≤ T
        · have HE := Lib.hid (ck1_old (q := ⟨T, V, S, true⟩) (x := (t, v)) ⟨h1, h2⟩ rfl h3)
          go_enter Tryd.func25, Tryd.ntmps25
          go_wp2_with (go_at_call 30; refine (chunk_inRange _ true _ (by simp; omega)).mono ?_; rintro e w' ⟨rfl, rfl⟩)
          refine region_two [0, 1, 2, 3, 4, 5, 6, 7, 8, 9, 10, 11, 12, 13] [] (by kernel_rfl) (by kernel_rfl) ?_
          simp only [pick, List.map_cons, List.map_nil, List.getD_cons_zero, List.getD_cons_succ]
          go_wp2
          go_ret
          exact ⟨ret_int HE.out.symm, (h0.alloc (Nat.le_refl _) _).drew⟩
        · have HE := Lib.hid (ck1_ok (q := ⟨T, V, S, true⟩) (x := (t, v)) h1 h2 (fun _ => by dsimp only; omega))
          go_enter Tryd.func25, Tryd.ntmps25
          go_wp2_with (go_at_call 30; refine (chunk_inRange _ true _ (by simp; omega)).mono ?_; rintro e w' ⟨rfl, rfl⟩)
          refine region_two [0, 1, 2, 3, 4, 5, 6, 7, 8, 9, 10, 11, 12, 13] [] (by kernel_rfl) (by kernel_rfl) ?_
          simp only [pick, List.map_cons, List.map_nil, List.getD_cons_zero, List.getD_cons_succ]
          go_wp2
          go_ret
          exact ⟨ret_int HE.out.symm, (h0.alloc (Nat.le_refl _) _).drew⟩
    · have HE := Lib.hid (ck1_over (q := ⟨T, V, S, s⟩) (x := (t, v)) (fun h => h2 h.2))
      go_enter Tryd.func25, Tryd.ntmps25
      go_wp2_with fail
      refine (chunk_inRange t true _ (by simp; omega)).mono ?_
      rintro e w' ⟨rfl, rfl⟩
      go_wp2_with fail
      refine (chunk_inRange v false _ (by simp; omega)).mono ?_
      rintro e w' ⟨rfl, rfl⟩
      go_wp2
      go_ret
      exact ⟨ret_int HE.out.symm, h0.alloc (Nat.le_refl _) _⟩
  · have HE := Lib.hid (ck1_over (q := ⟨T, V, S, s⟩) (x := (t, v)) (fun h => h1 h.1))
    go_enter Tryd.func25, Tryd.ntmps25
    go_wp2_with fail
    refine (chunk_inRange t false _ (by simp; omega)).mono ?_
    rintro e w' ⟨rfl, rfl⟩
    go_wp2
    go_ret
    exact ⟨ret_int HE.out.symm, h0.alloc (Nat.le_refl _) _⟩

set_option maxHeartbeats 1000000 in
theorem chunk_differences (q : St) (t v : Int) (b : Nat) (w : World) (hbox : Box w b 58 (stC q)) (hq : okSt q) (h1 : InR t) (h2 : InR v) :
    Calls Tryd.prog 26 #[.pointer (some ⟨b, 0, none⟩), .agg #[.int .i64 t, .int .i64 v]] w fun e w' => e = .returned (.tuple #[.int .i64 (t - q.t - q.s), .int .i64 (v - q.v)]) ∧ Below w.heap.size w w' := by
  obtain ⟨T, V, S, s⟩ := q
  unfold okSt InR at hq
  unfold InR at h1 h2
  obtain ⟨⟨q1, q2⟩, ⟨q3, q4⟩, ⟨q5, q6⟩, q7⟩ := hq
  dsimp only at q1 q2 q3 q4 q5 q6 q7
  have hlt := hbox.lt
  have hc0 : w.cell? ⟨b, 0, none⟩ = some (.int .i64 T) := hbox.cell 0
  have hc1 : w.cell? ⟨b, 1, none⟩ = some (.int .i64 V) := hbox.cell 1
  have hc2 : w.cell? ⟨b, 2, none⟩ = some (.int .i64 S) := hbox.cell 2
  go_enter Tryd.func26, Tryd.ntmps26
  go_wp2
  refine region_two [0, 1, 2, 3, 4, 5, 6, 7, 8, 9, 10, 11, 12, 13, 14, 15, 16, 17, 18, 19, 20, 21, 22] [] (by kernel_rfl) (by kernel_rfl) ?_
  simp only [pick, List.map_cons, List.map_nil, List.getD_cons_zero, List.getD_cons_succ]
  go_wp2
  go_ret2
  exact ⟨rfl, ((Below.refl _ _).alloc (Nat.le_refl _) _).drew⟩

theorem results_none {P : Program} {fn : Func} (h : fn.results = #[]) (tmps : Array Value) (w : World) : (results fn tmps).run P w = .ok (.tuple #[]) w := by
  unfold results
  simp [h]

set_option maxHeartbeats 1000000 in
theorem chunk_advance (q : St) (t v : Int) (b : Nat) (w : World) (hbox : Box w b 58 (stC q)) (hq : okSt q) (h1 : InR t) (h2 : InR v) :
    Calls Tryd.prog 27 #[.pointer (some ⟨b, 0, none⟩), .agg #[.int .i64 t, .int .i64 v]] w fun e w' => e = .returned (.tuple #[]) ∧ Box w' b 58 (stC (adv q (t, v))) ∧ w.grownBy w' (some b) := by
  obtain ⟨T, V, S, s⟩ := q
  unfold okSt InR at hq
  unfold InR at h1 h2
  obtain ⟨⟨q1, q2⟩, ⟨q3, q4⟩, ⟨q5, q6⟩, q7⟩ := hq
  dsimp only at q1 q2 q3 q4 q5 q6 q7
  have hlt := hbox.lt
  have hc0 : w.cell? ⟨b, 0, none⟩ = some (.int .i64 T) := hbox.cell 0
  have hc1 : w.cell? ⟨b, 1, none⟩ = some (.int .i64 V) := hbox.cell 1
  have hc2 : w.cell? ⟨b, 2, none⟩ = some (.int .i64 S) := hbox.cell 2
  have hc3 : w.cell? ⟨b, 3, none⟩ = some (.bool s) := hbox.cell 3
  have hf0 := hbox.frozen 0
  have hf1 := hbox.frozen 1
  have hf2 := hbox.frozen 2
  have hf3 := hbox.frozen 3
  cases s with
  | false =>
    have HS := Lib.hid (q7 rfl)
    clear q7
    go_enter Tryd.func27, Tryd.ntmps27
    go_wp2
    refine bodyPost_end (v := .tuple #[]) (results_none rfl _ _) rfl ?_
    refine ⟨rfl, ?_, ?_⟩
    · have h1 := (((hbox.set 0 (.int .i64 t)).set 1 (.int .i64 v)).set 3 (.bool true)).alloc (Obj.cells #[.int .i64 t, .int .i64 v] 39)
      have he : stC (adv ⟨T, V, S, false⟩ (t, v)) = (((stC ⟨T, V, S, false⟩).set 0 (.int .i64 t)).set 1 (.int .i64 v)).set 3 (.bool true) := by
        simp [stC, adv, stepOf, HS.out]
      rw [he]
      exact h1
    · exact grown_alloc (grown_trans (grown_trans (grown_setCell w ⟨b, 0, none⟩ _) (grown_setCell _ ⟨b, 1, none⟩ _)) (grown_setCell _ ⟨b, 3, none⟩ _)) _
  | true =>
    clear q7
    go_enter Tryd.func27, Tryd.ntmps27
    go_wp2
    refine region_two [0, 1, 2, 3, 4, 5, 6, 7, 8, 9, 10] [11] (by kernel_rfl) (by kernel_rfl) ?_
    simp only [pick, List.map_cons, List.map_nil, List.getD_cons_zero, List.getD_cons_succ]
    go_wp2
    refine bodyPost_end (v := .tuple #[]) (results_none rfl _ _) rfl ?_
    refine ⟨rfl, ?_, ?_⟩
    · have h1 := ((((hbox.set 2 (.int .i64 (t - T))).set 0 (.int .i64 t)).set 1 (.int .i64 v)).set 3 (.bool true)).alloc (Obj.cells #[.int .i64 t, .int .i64 v] 39)
      have he : stC (adv ⟨T, V, S, true⟩ (t, v)) = ((((stC ⟨T, V, S, true⟩).set 2 (.int .i64 (t - T))).set 0 (.int .i64 t)).set 1 (.int .i64 v)).set 3 (.bool true) := by
        simp [stC, adv, stepOf]
      rw [he]
      exact h1
    · exact grown_drewN (grown_alloc (grown_trans (grown_trans (grown_trans (grown_setCell w ⟨b, 2, none⟩ _) (grown_setCell _ ⟨b, 0, none⟩ _)) (grown_setCell _ ⟨b, 1, none⟩ _)) (grown_setCell _ ⟨b, 3, none⟩ _)) _) 1
end Go.Proofs.YtnpabbinckcbaaaDoor
