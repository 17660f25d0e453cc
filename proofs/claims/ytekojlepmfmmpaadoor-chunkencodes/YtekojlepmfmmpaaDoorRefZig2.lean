/- The fields of a code, in the document's answer. No statement of the seat is proved here; no condition. -/
import Derived.Test.YtekojlepmfmmpaaDoorRefZig1
import Derived.Test.YtekojlepmfmmpaaDoorRefBits
set_option linter.unusedSimpArgs false
set_option linter.unusedVariables false
namespace Go.Proofs.YtekojlepmfmmpaaDoor
open Go.RowKit Go.Ord Go.Baro

theorem ref_ZigFoldS (n : Int) (w : World) (h : -288230376151711744 ≤ n ∧ n < 288230376151711744) :
    Calls Tryd.prog 26 #[.int .i64 n] w fun e w' => (∃ f, e = .returned (.tuple #[.int .i64 f, .int .i64 0]) ∧ Hid (f = zfold n) ∧ 0 ≤ f ∧ f < 576460752303423488) ∧ w = w' := by
  refine (ref_ZigFold n w (by omega) (by omega)).mono ?_
  rintro e w' ⟨rfl, rfl⟩
  have h1 := f_in (n := n) h
  have h2 := zfold_range (n := n) h
  exact ⟨⟨zfold n, by rw [h1.1, h1.2], rfl, h2.1, h2.2⟩, rfl⟩
theorem ref_ZigFoldO (n : Int) (w : World) (h : n < -288230376151711744 ∨ 288230376151711744 ≤ n) (r0 : -9223372036854775808 ≤ n) (r1 : n ≤ 9223372036854775807) :
    Calls Tryd.prog 26 #[.int .i64 n] w fun e w' => e = .returned (.tuple #[.int .i64 0, .int .i64 11]) ∧ w = w' := by
  refine (ref_ZigFold n w r0 r1).mono ?_
  rintro e w' ⟨rfl, rfl⟩
  have h1 := f_over h
  exact ⟨by rw [h1.1, h1.2], rfl⟩

theorem rf_lit (w : World) (e : TypeId) (n : Nat) (fs : List (Int × Int)) (hl : fs.length = n) : RF (w.alloc (.cells (cellsF fs).toArray e)) (w.alloc (.cells (cellsF fs).toArray e)).heap.size (some ⟨w.heap.size, 0, none⟩) n fs :=
  Rd.lit w e (by rw [cellsF_length, hl])

set_option maxHeartbeats 1000000 in
theorem ref_zigFields (x : Int) (w : World) (h0 : 0 ≤ x) :
    Calls Tryd.prog 27 #[.int .i64 x] w fun e w' => (∃ A n c, e = .returned (.slice A n c) ∧ RF w' w'.heap.size A n (zf x)) ∧ Below w.heap.size w w' := by
  rcases zk_cases x with ⟨hx, hk⟩ | ⟨hx, hx', hk⟩ | ⟨hx, hx', hk⟩ | ⟨hx, hx', hk⟩ | ⟨hx, hk⟩
  · subst hx
    clear hk
    go_enter Tryd.func27, Tryd.ntmps27
    go_wp2
    go_ret
    exact ⟨⟨_, _, _, rfl, rf_lit w _ _ [(1, 0)] rfl⟩, (Below.refl _ _).alloc (Nat.le_refl _) _⟩
  · have HZ := Lib.hid (zf_k hx hk)
    have hp : 0 < x := by omega
    have hb : (x == 0) = false := by simp; omega
    clear hx hk
    go_enter Tryd.func27, Tryd.ntmps27
    go_wp2
    go_ret
    refine ⟨⟨_, _, _, rfl, ?_⟩, (Below.refl _ _).alloc (Nat.le_refl _) _⟩
    rw [HZ.out]
    exact rf_lit w _ _ [(2, 2), (6, x)] rfl
  · have HZ := Lib.hid (zf_k (by omega) hk)
    have hb : (x == 0) = false := by simp; omega
    clear hk
    go_enter Tryd.func27, Tryd.ntmps27
    go_wp2
    go_ret
    refine ⟨⟨_, _, _, rfl, ?_⟩, (Below.refl _ _).alloc (Nat.le_refl _) _⟩
    rw [HZ.out]
    exact rf_lit w _ _ [(3, 6), (12, x)] rfl
  · have HZ := Lib.hid (zf_k (by omega) hk)
    have hb : (x == 0) = false := by simp; omega
    clear hk
    go_enter Tryd.func27, Tryd.ntmps27
    go_wp2
    go_ret
    refine ⟨⟨_, _, _, rfl, ?_⟩, (Below.refl _ _).alloc (Nat.le_refl _) _⟩
    rw [HZ.out]
    exact rf_lit w _ _ [(4, 14), (24, x)] rfl
  · have HZ := Lib.hid (zf_k (by omega) hk)
    have hb : (x == 0) = false := by simp; omega
    clear hk
    go_enter Tryd.func27, Tryd.ntmps27
    go_wp2
    go_ret
    refine ⟨⟨_, _, _, rfl, ?_⟩, (Below.refl _ _).alloc (Nat.le_refl _) _⟩
    rw [HZ.out]
    exact rf_lit w _ _ [(4, 15), (59, x)] rfl

/-- The bits of a code. -/
theorem ref_zigBits (x : Int) (A : Option Addr) (n c : Nat) (w : World) (h0 : 0 ≤ x) (h1 : x < 576460752303423488) (hf : RF w w.heap.size A n (zf x)) :
    Calls Tryd.prog 24 #[.slice A n c] w fun e w' => ∃ v, e = .returned v ∧ w'.ownsRow w.heap.size 3 1 v (zsize x) ((zbits x).map (Value.int .i64)) ∧ Below w.heap.size w w' := by
  have hl := hf.len
  have := ref_bitList (zf x) A n c w hf (by have := zf_len x; omega) (zf_ok h0 h1)
  rw [zf_bits, zbits_len] at this
  exact this
end Go.Proofs.YtekojlepmfmmpaaDoor
