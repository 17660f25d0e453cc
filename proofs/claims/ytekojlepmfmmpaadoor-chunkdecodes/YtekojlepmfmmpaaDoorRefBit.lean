/- A bit of bytes, in the document's answer. No statement of the seat is proved here; no condition. -/
import Derived.Test.YtekojlepmfmmpaaDoorBits
set_option linter.unusedSimpArgs false
set_option linter.unusedVariables false
namespace Go.Proofs.YtekojlepmfmmpaaDoor
open Go.RowKit Go.Ord Go.Baro

theorem ref_bit (l : List Int) (i : Nat) : l[i / 8]?.getD 0 / (128 / 2 ^ (i % 8)) % 2 = bitOf l i := by
  unfold bitOf
  have h : ∀ k < 8, (128 : Int) / 2 ^ k = 2 ^ (7 - k) := by decide
  rw [h (i % 8) (Nat.mod_lt _ (by decide))]

set_option maxHeartbeats 1000000 in
theorem ref_bitAt (l : List Int) (A : Option Addr) (n c : Nat) (i' : Int) (w : World) (B : Nat) (hb : RI w B .u8 A n l)
    (hr : ∀ x ∈ l, 0 ≤ x ∧ x < 256) (hn : n ≤ 140737488355328) (h0 : 0 ≤ i') (h1 : i' < 8 * n) :
    Calls Tryd.prog 45 #[.slice A n c, .int .i64 i'] w fun e w' => e = .returned (.int .i64 (bitOf l i'.toNat)) ∧ ∃ m, w' = w.drewN m := by
  obtain ⟨i, rfl⟩ := Int.eq_ofNat_of_zero_le h0
  simp only [Int.toNat_natCast]
  have hix : i / 8 < n := by omega
  obtain ⟨b, o, x, rfl, _, hcell, HX, hmem⟩ := hb.val hix
  have hx := hr x hmem
  have h128 : ∀ k < 8, (128 : Int) / 2 ^ k = 2 ^ (7 - k) := by decide
  have HP := Lib.hid (h128 (i % 8) (Nat.mod_lt _ (by decide)))
  have hp0 : 0 < (128 : Int) / 2 ^ (i % 8) := by rw [HP.out]; exact Int.pow_pos (by decide)
  clear h128
  have hdv : 0 ≤ x / ((128 : Int) / 2 ^ (i % 8)) := Int.ediv_nonneg hx.1 (by omega)
  go_enter Tryd.func45, Tryd.ntmps45
  go_wp2
  refine region_two [0, 1, 2, 3, 4, 5, 6, 7, 8, 9, 10, 11] [] (by kernel_rfl) (by kernel_rfl) ?_
  simp only [pick, List.map_cons, List.map_nil, List.getD_cons_zero, List.getD_cons_succ]
  go_wp2
  go_ret
  refine ⟨ret_int ?_, 1, rfl⟩
  rw [← ref_bit l i, HX.out]
  rfl
end Go.Proofs.YtekojlepmfmmpaaDoor
