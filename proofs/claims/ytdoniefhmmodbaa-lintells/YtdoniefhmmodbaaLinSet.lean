/- What the sets of lin and limit do. No statement of the seat is proved here; no condition. -/
import Derived.Test.YtdoniefhmmodbaaLinMem
set_option linter.unusedSimpArgs false
set_option linter.unusedVariables false
namespace Go.Proofs.Ytdoniefhmmodbaa
open Go.RowKit Go.Ord Go.Baro

theorem nat64 (a : Nat) (h : a < 18446744073709551616) : (BitVec.ofInt 64 (a : Int)).toNat = a := by
  rw [BitVec.ofInt_natCast, BitVec.toNat_ofNat]; exact Nat.mod_eq_of_lt (by omega)
theorem wrap64u (a : Nat) (h : a < 18446744073709551616) : IntKind.u64.wrap (a : Int) = a := by
  simp [IntKind.wrap, IntKind.bits, IntKind.signed]
  omega
theorem or_u64 (a b : Nat) (ha : a < 512) (hb : b < 512) : bits .or .u64 (a : Int) (b : Int) = ((a ||| b : Nat) : Int) := by
  have hx : a ||| b < 2 ^ 9 := Nat.or_lt_two_pow (by omega) (by omega)
  show IntKind.u64.wrap ((BitVec.ofInt 64 (a : Int) ||| BitVec.ofInt 64 (b : Int)).toNat : Int) = _
  rw [BitVec.toNat_or, nat64 a (by omega), nat64 b (by omega)]
  exact wrap64u _ (by omega)
theorem and_u64 (a : Nat) (ha : a < 512) : bits .and .u64 (a : Int) 1 = ((a % 2 : Nat) : Int) := by
  show IntKind.u64.wrap ((BitVec.ofInt 64 (a : Int) &&& BitVec.ofInt 64 ((1 : Nat) : Int)).toNat : Int) = _
  rw [BitVec.toNat_and, nat64 a (by omega), nat64 1 (by omega), Nat.and_one_is_mod]
  exact wrap64u _ (by omega)
theorem pow_cast (i : Nat) : (2 : Int) ^ i = ((2 ^ i : Nat) : Int) := by simp
theorem pow9 {i : Nat} (hi : i < 9) : 2 ^ i < 512 := by
  have : 2 ^ i ≤ 2 ^ 8 := Nat.pow_le_pow_right (by omega) (by omega)
  omega
set_option maxHeartbeats 1000000 in
theorem set_has (w : World) (d i : Nat) (hd : d < 512) (hi : i < 9) : Calls Try.prog 29 #[.int .u64 d, .int .i64 i] w fun e w' => e = .returned (.bool (d.testBit i)) ∧ Below w.heap.size w w' := by
  have h0 := Below.refl w.heap.size w
  have he : (bits .and .u64 ((d : Int) / 2 ^ i) 1 == 1) = d.testBit i := by
    have hle : d / 2 ^ i ≤ d := Nat.div_le_self _ _
    rw [pow_cast, ← Int.natCast_ediv, and_u64 _ (by omega), Nat.testBit_eq_decide_div_mod_eq]
    by_cases h : d / 2 ^ i % 2 = 1
    · rw [h]; simp
    · have : d / 2 ^ i % 2 = 0 := by omega
      rw [this]; simp
  have HE := Lib.hid he
  clear he
  go_enter Try.func29, Try.ntmps29
  go_wp2
  go_ret
  exact ⟨ret_bool HE.out, h0⟩
set_option maxHeartbeats 1000000 in
theorem set_with (w : World) (d i : Nat) (hd : d < 512) (hi : i < 9) : Calls Try.prog 30 #[.int .u64 d, .int .i64 i] w fun e w' => e = .returned (.int .u64 ((d ||| 2 ^ i : Nat) : Int)) ∧ Below w.heap.size w w' := by
  have h0 := Below.refl w.heap.size w
  have he : bits .or .u64 (d : Int) (IntKind.u64.wrap (2 ^ i)) = ((d ||| 2 ^ i : Nat) : Int) := by
    have := pow9 hi
    rw [pow_cast, wrap64u _ (by omega), or_u64 _ _ hd (by omega)]
  have HE := Lib.hid he
  clear he
  go_enter Try.func30, Try.ntmps30
  go_wp2
  go_ret
  exact ⟨by rw [HE.out]; rfl, h0⟩
theorem bit_lt {d i : Nat} (hd : d < 512) (hi : i < 9) : d ||| 2 ^ i < 512 := by
  have := pow9 hi
  have : d ||| 2 ^ i < 2 ^ 9 := Nat.or_lt_two_pow (by omega) (by omega)
  omega
end Go.Proofs.Ytdoniefhmmodbaa
