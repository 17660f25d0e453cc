/- What package file does to write a record. No statement of the seat is proved here; no condition. -/
import Derived.Test.YtpgjjndmbkkhiaaAdler1
import Derived.Test.YtpgjjndmbkkhiaaKeepOctets
import Derived.Test.YtpgjjndmbkkhiaaLibL
import Derived.Test.YtpgjjndmbkkhiaaFilePure
set_option linter.unusedSimpArgs false
set_option linter.unusedVariables false
namespace Go.Proofs.Ytpgjjndmbkkhiaa
open Go.RowKit Go.Ord Go.Baro

theorem wraps_i64F (n : Int) (h0 : 0 ≤ n) (h1 : n < 2 ^ 62) : IntKind.i64.wrap n = n := by rw [IntKind.wrap_i64]; omega
theorem shl8_or (S x : Int) (h0 : 0 ≤ S) (h1 : S < 16777216) (hx : 0 ≤ x ∧ x < 256) : bits .or .i64 (S * 256) x = S * 256 + x :=
  bits_join .i64 62 (by decide) wraps_i64F 8 (S * 256) x (by omega) (by omega) (by omega) hx.1 (by omega) (by omega)
theorem lt_of_pow {S : Int} {j : Nat} (h : S < 256 ^ j) (hj : j ≤ 3) : S < 16777216 := by
  match j, hj with
  | 0, _ => omega
  | 1, _ => omega
  | 2, _ => omega
  | 3, _ => omega

set_option maxHeartbeats 1000000 in
theorem file_number (l : List Int) (A : Option Addr) (n c : Nat) (w : World) (B : Nat) (hb : RI w B .u8 A n l) (hr : ∀ x ∈ l, 0 ≤ x ∧ x < 256) (hn : n ≤ 4) :
    Calls Try.prog 26 #[.slice A n c] w fun e w' => e = .returned (.int .i64 (nmL l)) ∧ w = w' := by
  have HL := Lib.hid hb.len
  have HR := Lib.hid hr
  clear hr
  go_enter Try.func26, Try.ntmps26
  go_wp2
  go_loopw [3, 8] (fun a i wr => ∃ (j : Nat) (S : Int), j ≤ n ∧ i = .int .i64 j ∧ a = .int .i64 S ∧ Hid (S = nmL (l.take j)) ∧ 0 ≤ S ∧ S < 256 ^ j ∧ wr = w) (fun _ i _ => n - (intOf i).toNat)
  case atStart => exact ⟨0, 0, Nat.zero_le _, rfl, rfl, rfl, by omega, by omega, rfl⟩
  case round =>
    obtain ⟨j, S, hj, rfl, rfl, HE, s0, s1, rfl⟩ := hrel
    by_cases hlt : j < n
    · obtain ⟨b, o, x, rfl, _, hcell, HX, hmem⟩ := hb.val hlt
      have hx := HR.out x hmem
      have hS : S < 16777216 := lt_of_pow s1 (by omega)
      have HO := Lib.hid (shl8_or S x s0 hS hx)
      have HN := Lib.hid (nmL_take HX.out)
      go_wp2
      refine ⟨⟨j + 1, S * 256 + x, by omega, by go_num, val_int HO.out, ?_, by omega, ?_, by trivial⟩, by simp [intOf]; omega⟩
      · show _ = _
        rw [HN.out, ← HE.out]
      · rw [Int.pow_succ]; omega
    · go_wp2
      go_ret
      exact ⟨ret_int (by rw [HE.out, List.take_of_length_le (by rw [HL.out]; omega)]), rfl⟩

theorem beL_at {k : Nat} {m : Int} {done : List Int} {j : Nat} (h : done ++ beL (j + 1) m = beL k m) : (done ++ [m / 2 ^ (8 * j) % 256]) ++ beL j m = beL k m := by
  rw [← h]; simp [beL]

set_option maxHeartbeats 1000000 in
theorem file_appendNumber (base : Nat) (v : Value) (N : Nat) (xs : List Int) (m : Int) (k : Nat) (w : World) (hown : w.ownsRow base 5 1 v N (xs.map (Value.int .u8))) (hN : N ≤ 1000000) (hm : 0 ≤ m) (hm1 : m < 4294967296) (hk : k ≤ 4) (hb : base ≤ w.heap.size) :
    Calls Try.prog 18 #[v, .int .i64 m, .int .i64 k] w fun e w' => ∃ v', e = .returned v' ∧ w'.ownsRow base 5 1 v' (N + k) ((xs ++ beL k m).map (Value.int .u8)) ∧ (∀ w0, Below base w0 w → Below base w0 w') ∧ base ≤ w'.heap.size := by
  go_enter Try.func18, Try.ntmps18
  go_wp2
  go_loopw [0, 7] (fun b s wr => ∃ (j M : Nat) (s' : Int) (done : List Int), j ≤ k ∧ s = .int .i64 s' ∧ s' = 8 * j - 8 ∧ wr.ownsRow base 5 1 b M ((xs ++ done).map (Value.int .u8)) ∧ M + j = N + k ∧ Hid (done ++ beL j m = beL k m) ∧ (∀ w0, Below base w0 w → Below base w0 wr) ∧ base ≤ wr.heap.size) (fun _ s _ => (intOf s + 8).toNat)
  case atStart => exact ⟨k, N, _, [], Nat.le_refl _, rfl, by omega, by simpa using hown, rfl, rfl, fun _ h => h, hb⟩
  case round =>
    rename_i b s
    obtain ⟨j, M, s', done, hj, rfl, hs, ho, hM, HD, hbel, hsz⟩ := hrel
    have hc : (j = 0 ∧ s' = -8) ∨ (j = 1 ∧ s' = 0) ∨ (j = 2 ∧ s' = 8) ∨ (j = 3 ∧ s' = 16) ∨ (j = 4 ∧ s' = 24) := by omega
    clear hs
    rcases hc with ⟨rfl, rfl⟩ | ⟨rfl, rfl⟩ | ⟨rfl, rfl⟩ | ⟨rfl, rfl⟩ | ⟨rfl, rfl⟩
    · go_wp2
      go_ret
      have hD := HD.out
      simp only [beL, List.append_nil] at hD
      exact ⟨_, rfl, by rw [← hM, ← hD]; exact ho, hbel, hsz⟩
    · go_wp2_with (at_builtin; go_must (refine app_lit eltOct wr rfl _ _ rfl base _ _ _ rfl (by exact ho) 1 [_] _ rfl rfl rfl (one1 _ _) (by omega) (by omega) hsz ?_); intro v2 w2 ho2 _ hbel2 hsz2)
      refine ⟨⟨0, M + 1, _, done ++ [m / 2 ^ (8 * 0) % 256], by omega, rfl, by omega, ?_, by omega, beL_at HD.out, fun w0 h => hbel2 w0 (hbel w0 h), hsz2⟩, by decide⟩
      rw [← List.append_assoc, List.map_append]
      rw [show m / 2 ^ (8 * 0) % 256 = m % 256 from by simp]
      exact ho2
    · go_wp2_with (at_builtin; go_must (refine app_lit eltOct wr rfl _ _ rfl base _ _ _ rfl (by exact ho) 1 [_] _ rfl rfl rfl (one1 _ _) (by omega) (by omega) hsz ?_); intro v2 w2 ho2 _ hbel2 hsz2)
      refine ⟨⟨1, M + 1, _, done ++ [m / 2 ^ (8 * 1) % 256], by omega, rfl, by omega, ?_, by omega, beL_at HD.out, fun w0 h => hbel2 w0 (hbel w0 h), hsz2⟩, by decide⟩
      rw [← List.append_assoc, List.map_append]
      exact ho2
    · go_wp2_with (at_builtin; go_must (refine app_lit eltOct wr rfl _ _ rfl base _ _ _ rfl (by exact ho) 1 [_] _ rfl rfl rfl (one1 _ _) (by omega) (by omega) hsz ?_); intro v2 w2 ho2 _ hbel2 hsz2)
      refine ⟨⟨2, M + 1, _, done ++ [m / 2 ^ (8 * 2) % 256], by omega, rfl, by omega, ?_, by omega, beL_at HD.out, fun w0 h => hbel2 w0 (hbel w0 h), hsz2⟩, by decide⟩
      rw [← List.append_assoc, List.map_append]
      exact ho2
    · go_wp2_with (at_builtin; go_must (refine app_lit eltOct wr rfl _ _ rfl base _ _ _ rfl (by exact ho) 1 [_] _ rfl rfl rfl (one1 _ _) (by omega) (by omega) hsz ?_); intro v2 w2 ho2 _ hbel2 hsz2)
      refine ⟨⟨3, M + 1, _, done ++ [m / 2 ^ (8 * 3) % 256], by omega, rfl, by omega, ?_, by omega, beL_at HD.out, fun w0 h => hbel2 w0 (hbel w0 h), hsz2⟩, by decide⟩
      rw [← List.append_assoc, List.map_append]
      rw [show m / 2 ^ (8 * 3) % 256 = m / 16777216 from by simp only [Nat.reduceMul, Int.reducePow]; omega]
      exact ho2
theorem own_len {w : World} {base : Nat} {e : TypeId} {v : Value} {n : Nat} {l : List Int} {k : IntKind} (h : w.ownsRow base e 1 v n (l.map (Value.int k))) : n = l.length := by have := h.1; simp at this; omega
theorem rc_in {l : List Int} (h : l.length ≤ 4000) : rcR l = rcL l ∧ rcC l = 0 := by simp [rcR, rcC, h]
theorem rc_out {l : List Int} (h : ¬ l.length ≤ 4000) : rcR l = [] ∧ rcC l = 1 := by simp [rcR, rcC, h]

set_option maxHeartbeats 1000000 in
theorem file_Record (l : List Int) (A : Option Addr) (n c : Nat) (w : World) (hb : RI w w.heap.size .u8 A n l) (hr : ∀ x ∈ l, 0 ≤ x ∧ x < 256) (hn : n ≤ 9223372036854775807) :
    Calls Try.prog 9 #[.slice A n c] w fun e w' => ∃ v N, e = .returned (.tuple #[v, .int .i64 (rcC l)]) ∧ w'.ownsRow w.heap.size 5 1 v N ((rcR l).map (Value.int .u8)) ∧ Below w.heap.size w w' := by
  have HL := Lib.hid hb.len
  have HR := Lib.hid hr
  clear hr
  by_cases h : n ≤ 4000
  · have HM := Lib.hid (rc_in (l := l) (by rw [HL.out]; exact h))
    have HO := adO_range l
    go_enter Try.func9, Try.ntmps9
    go_wp2_with (at_make; refine make_room eltOct _ rfl _ _ rfl w.heap.size _ _ _ (6 + n) rfl rfl (by omega) (by omega) (by omega) (Nat.le_refl _) ?_; intro w1 hown1 hbel1 hsz1 _)
    refine (file_appendNumber w.heap.size _ 0 [] n 2 _ (by exact hown1) (by omega) (by omega) (by omega) (by omega) hsz1).mono ?_
    rintro e w2 ⟨v2, rfl, hown2, hbel2, hsz2⟩
    have hb2 : Below w.heap.size w w2 := hbel2 w (hbel1 w (Below.refl _ _))
    clear hbel1 hbel2
    go_wp2_with fail
    refine (adler_Of l _ _ _ _ ((hb.below hb2).more hb2.size) HR.out (by omega)).mono ?_
    rintro e w3 ⟨rfl, hb3⟩
    have hown3 := own_below hown2 hb3
    have hbA : Below w.heap.size w w3 := hb2.trans (hb3.mono hsz2)
    go_wp2_with fail
    refine (file_appendNumber w.heap.size _ _ _ (adO l) 4 _ hown3 (by omega) (by omega) (by omega) (by omega) hbA.size).mono ?_
    rintro e w4 ⟨v4, rfl, hown4, hbel4, hsz4⟩
    have hb4 : Below w.heap.size w w4 := hbel4 w hbA
    have hb5 := hb.below hb4
    go_wp2_with (at_builtin; go_must (refine app_src eltOct w4 rfl _ _ rfl w.heap.size _ _ _ rfl (by exact hown4) A n _ (l.map (Value.int .u8)) rfl _ (by exact hb5) (one_ints _ _) (by omega) (by omega) hsz4 ?_); intro v6 w6 hown6 _ hbel6 _)
    go_ret2
    refine ⟨v6, 0 + 2 + 4 + n, ret_two rfl (val_int HM.out.2.symm), ?_, hbel6 w hb4⟩
    rw [HM.out.1]
    unfold rcL
    rw [← hdL_be, List.map_append, HL.out]
    exact hown6
  · have HM := Lib.hid (rc_out (l := l) (by rw [HL.out]; exact h))
    go_enter Try.func9, Try.ntmps9
    go_wp2
    go_ret2
    refine ⟨_, 0, ret_two rfl (val_int HM.out.2.symm), ?_, Below.refl _ _⟩
    rw [HM.out.1]
    exact World.ownsRow_nil _ _ _ _
end Go.Proofs.Ytpgjjndmbkkhiaa
