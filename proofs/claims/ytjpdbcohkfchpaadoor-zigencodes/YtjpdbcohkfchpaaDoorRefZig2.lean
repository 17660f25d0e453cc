/- What the document's answer to Size does, and the fields of a code. No statement of the seat is proved here; no condition. -/
import Derived.Test.YtjpdbcohkfchpaaDoorRefZig1
import Derived.Test.YtjpdbcohkfchpaaDoorRefBits
set_option linter.unusedSimpArgs false
set_option linter.unusedVariables false
namespace Go.Proofs.YtjpdbcohkfchpaaDoor
open Go.RowKit Go.Ord Go.Baro

theorem ref_ZigFoldS (n : Int) (w : World) (h : -288230376151711744 ≤ n ∧ n < 288230376151711744) :
    Calls Tryd.prog 21 #[.int .i64 n] w fun e w' => (∃ f, e = .returned (.tuple #[.int .i64 f, .int .i64 0]) ∧ Hid (f = zfold n) ∧ 0 ≤ f ∧ f < 576460752303423488) ∧ w = w' := by
  refine (ref_ZigFold n w (by omega) (by omega)).mono ?_
  rintro e w' ⟨rfl, rfl⟩
  have h1 := f_in (n := n) h
  have h2 := zfold_range (n := n) h
  exact ⟨⟨zfold n, by rw [h1.1, h1.2], rfl, h2.1, h2.2⟩, rfl⟩
theorem ref_ZigFoldO (n : Int) (w : World) (h : n < -288230376151711744 ∨ 288230376151711744 ≤ n) (r0 : -9223372036854775808 ≤ n) (r1 : n ≤ 9223372036854775807) :
    Calls Tryd.prog 21 #[.int .i64 n] w fun e w' => e = .returned (.tuple #[.int .i64 0, .int .i64 11]) ∧ w = w' := by
  refine (ref_ZigFold n w r0 r1).mono ?_
  rintro e w' ⟨rfl, rfl⟩
  have h1 := f_over h
  exact ⟨by rw [h1.1, h1.2], rfl⟩

theorem rf_lit (w : World) (e : TypeId) (n : Nat) (fs : List (Int × Int)) (hl : fs.length = n) : RF (w.alloc (.cells (cellsF fs).toArray e)) (w.alloc (.cells (cellsF fs).toArray e)).heap.size (some ⟨w.heap.size, 0, none⟩) n fs :=
  Rd.lit w e (by rw [cellsF_length, hl])

set_option maxHeartbeats 1000000 in
theorem ref_zigFields (x : Int) (w : World) (h0 : 0 ≤ x) :
    Calls Tryd.prog 23 #[.int .i64 x] w fun e w' => (∃ A n c, e = .returned (.slice A n c) ∧ RF w' w'.heap.size A n (zf x)) ∧ Below w.heap.size w w' := by
  rcases zk_cases x with ⟨hx, hk⟩ | ⟨hx, hx', hk⟩ | ⟨hx, hx', hk⟩ | ⟨hx, hx', hk⟩ | ⟨hx, hk⟩
  · subst hx
    clear hk
    go_enter Tryd.func23, Tryd.ntmps23
    go_wp2
    go_ret
    exact ⟨⟨_, _, _, rfl, rf_lit w _ _ [(1, 0)] rfl⟩, (Below.refl _ _).alloc (Nat.le_refl _) _⟩
  · have HZ := Lib.hid (zf_k hx hk)
    have hp : 0 < x := by omega
    have hb : (x == 0) = false := by simp; omega
    clear hx hk
    go_enter Tryd.func23, Tryd.ntmps23
    go_wp2
    go_ret
    refine ⟨⟨_, _, _, rfl, ?_⟩, (Below.refl _ _).alloc (Nat.le_refl _) _⟩
    rw [HZ.out]
    exact rf_lit w _ _ [(2, 2), (6, x)] rfl
  · have HZ := Lib.hid (zf_k (by omega) hk)
    have hb : (x == 0) = false := by simp; omega
    clear hk
    go_enter Tryd.func23, Tryd.ntmps23
    go_wp2
    go_ret
    refine ⟨⟨_, _, _, rfl, ?_⟩, (Below.refl _ _).alloc (Nat.le_refl _) _⟩
    rw [HZ.out]
    exact rf_lit w _ _ [(3, 6), (12, x)] rfl
  · have HZ := Lib.hid (zf_k (by omega) hk)
    have hb : (x == 0) = false := by simp; omega
    clear hk
    go_enter Tryd.func23, Tryd.ntmps23
    go_wp2
    go_ret
    refine ⟨⟨_, _, _, rfl, ?_⟩, (Below.refl _ _).alloc (Nat.le_refl _) _⟩
    rw [HZ.out]
    exact rf_lit w _ _ [(4, 14), (24, x)] rfl
  · have HZ := Lib.hid (zf_k (by omega) hk)
    have hb : (x == 0) = false := by simp; omega
    clear hk
    go_enter Tryd.func23, Tryd.ntmps23
    go_wp2
    go_ret
    refine ⟨⟨_, _, _, rfl, ?_⟩, (Below.refl _ _).alloc (Nat.le_refl _) _⟩
    rw [HZ.out]
    exact rf_lit w _ _ [(4, 15), (59, x)] rfl

/-- The bits of a code. -/
theorem ref_zigBits (x : Int) (A : Option Addr) (n c : Nat) (w : World) (h0 : 0 ≤ x) (h1 : x < 576460752303423488) (hf : RF w w.heap.size A n (zf x)) :
    Calls Tryd.prog 22 #[.slice A n c] w fun e w' => ∃ v, e = .returned v ∧ w'.ownsRow w.heap.size 3 1 v (zsize x) ((zbits x).map (Value.int .i64)) ∧ Below w.heap.size w w' := by
  have hl := hf.len
  have := ref_bitList (zf x) A n c w hf (by have := zf_len x; omega) (zf_ok h0 h1)
  rw [zf_bits, zbits_len] at this
  exact this

set_option maxHeartbeats 1000000 in
theorem ref_ZigSize (n : Int) (w : World) (r0 : -9223372036854775808 ≤ n) (r1 : n ≤ 9223372036854775807) :
    Calls Tryd.prog 9 #[.int .i64 n] w fun e w' => e = .returned (.tuple #[.int .i64 (szR n), .int .i64 (fC n)]) ∧ Below w.heap.size w w' := by
  by_cases h : -288230376151711744 ≤ n ∧ n < 288230376151711744
  · have HF := Lib.hid (sz_in h)
    go_enter Tryd.func9, Tryd.ntmps9
    go_wp2_with fail
    refine (ref_ZigFoldS n _ h).mono ?_
    rintro e w' ⟨⟨x, rfl, HX, x0, x1⟩, rfl⟩
    have hzs := zsize_le x
    go_wp2_with fail
    refine (ref_zigFields x _ x0).mono ?_
    rintro e w1 ⟨⟨A, k, c, rfl, hf⟩, hb1⟩
    go_wp2_with fail
    refine (ref_zigBits x A k c _ x0 x1 hf).mono ?_
    rintro e w2 ⟨v, rfl, hown, hb2⟩
    obtain ⟨B, c2, rfl, hc2⟩ := own_form hown
    go_wp2
    go_ret2
    exact ⟨ret_two (val_int (by rw [HF.out.1, ← HX.out])) (val_int HF.out.2.symm), hb1.trans (hb2.mono hb1.size)⟩
  · have HF := Lib.hid (sz_over (n := n) (by omega))
    go_enter Tryd.func9, Tryd.ntmps9
    go_wp2_with fail
    refine (ref_ZigFoldO n _ (by omega) r0 r1).mono ?_
    rintro e w' ⟨rfl, rfl⟩
    go_wp2
    go_ret2
    exact ⟨ret_two (val_int HF.out.1.symm) (val_int HF.out.2.symm), Below.refl _ _⟩
end Go.Proofs.YtjpdbcohkfchpaaDoor
