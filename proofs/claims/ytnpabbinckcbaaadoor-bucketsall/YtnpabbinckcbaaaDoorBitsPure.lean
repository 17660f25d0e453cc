/- Bits of bytes, in plain numbers. No statement of the seat is proved here; no condition. -/
import Derived.Laws.BitsLemmas
import Derived.Laws.BitsAllLaws
import Derived.IntWalk
set_option linter.unusedSimpArgs false
set_option linter.unusedVariables false
namespace Go.Baro

/-- Bit i of bytes, from the top of the first. -/
def bitOf (l : List Int) (i : Nat) : Int := l[i / 8]?.getD 0 / 2 ^ (7 - i % 8) % 2
/-- The number of k bits from bit a on. -/
def fldOf (l : List Int) (a : Nat) : Nat → Int
  | 0 => 0
  | k + 1 => 2 * fldOf l a k + bitOf l (a + k)

theorem bitOf_01 (l : List Int) (i : Nat) : 0 ≤ bitOf l i ∧ bitOf l i < 2 := by unfold bitOf; omega
theorem fldOf_bd (l : List Int) (a k : Nat) : 0 ≤ fldOf l a k ∧ fldOf l a k < 2 ^ k := by
  induction k with
  | zero => simp [fldOf]
  | succ k ih =>
    have := bitOf_01 l (a + k)
    simp only [fldOf, Int.pow_succ]; omega
theorem pow_le {j k : Nat} (h : j ≤ k) : (2 : Int) ^ j ≤ 2 ^ k := by
  have := Nat.pow_le_pow_right (n := 2) (by decide) h
  exact_mod_cast this

/-- The error of a list of widths, with so many bits left. -/
def ckW (left : Int) : List Int → Int
  | [] => 0
  | w :: ws => if 0 ≤ w ∧ w ≤ 60 then (if left < w then 5 else ckW (left - w) ws) else 2
/-- The values of fields of these widths. -/
def valsOf (l : List Int) (a : Nat) : List Int → List Int
  | [] => []
  | w :: ws => fldOf l a w.toNat :: valsOf l (a + w.toNat) ws
def sumN (ws : List Int) : Nat := (ws.map Int.toNat).sum
def ckAll (left : Int) (ws : List Int) : Int := if 400 < ws.length then 1 else ckW left ws
def rdCode (n : Nat) (ws : List Int) : Int := ckAll (n * 8) ws
theorem ckAll_big {left : Int} {ws : List Int} (h : 400 < ws.length) : ckAll left ws = 1 := by rw [ckAll, if_pos h]
theorem ckAll_not {left : Int} {ws : List Int} (h : ¬ 400 < ws.length) : ckAll left ws = ckW left ws := by rw [ckAll, if_neg h]
def rdVals (l ws : List Int) : List Int := if rdCode l.length ws = 0 then valsOf l 0 ws else []
def rdSum (l ws : List Int) : Int := if rdCode l.length ws = 0 then sumN ws else 0
def fillTo (v : List Int) (n : Nat) : List Int := v ++ List.replicate (n - v.length) 0

theorem sumN_append (u v : List Int) : sumN (u ++ v) = sumN u + sumN v := by simp [sumN]
theorem valsOf_append (l : List Int) (u v : List Int) (a : Nat) : valsOf l a (u ++ v) = valsOf l a u ++ valsOf l (a + sumN u) v := by
  induction u generalizing a with
  | nil => simp [valsOf, sumN]
  | cons w u ih => simp [valsOf, ih, sumN, Nat.add_assoc]
theorem valsOf_length (l ws : List Int) (a : Nat) : (valsOf l a ws).length = ws.length := by
  induction ws generalizing a with
  | nil => rfl
  | cons w u ih => simp [valsOf, ih]
theorem take_snoc {α : Type} (l : List α) (k : Nat) (h : k < l.length) : l.take (k + 1) = l.take k ++ [l[k]] := List.take_succ_eq_append_getElem h
theorem fill_set (v : List Int) (n : Nat) (x : Int) (h : v.length < n) : (fillTo v n).set v.length x = fillTo (v ++ [x]) n := by
  unfold fillTo
  rw [List.set_append_right _ _ (Nat.le_refl _), Nat.sub_self]
  obtain ⟨k, hk⟩ : ∃ k, n - v.length = k + 1 := ⟨n - v.length - 1, by omega⟩
  have hk' : n - (v ++ [x]).length = k := by simp; omega
  rw [hk, hk', List.replicate_succ]
  simp
theorem fill_full (v : List Int) (n : Nat) (h : v.length = n) : fillTo v n = v := by simp [fillTo, h]
theorem ckW_zero (ws : List Int) : ∀ left : Int, 0 ≤ left → ckW left ws = 0 → (∀ w ∈ ws, 0 ≤ w ∧ w ≤ 60) ∧ (sumN ws : Int) ≤ left := by
  induction ws with
  | nil => intro left h _; simp [sumN]; exact h
  | cons w ws ih =>
    intro left hl h
    simp only [ckW] at h
    split at h
    · split at h
      · omega
      · obtain ⟨h1, h2⟩ := ih (left - w) (by omega) h
        refine ⟨fun x hx => ?_, ?_⟩
        · rcases List.mem_cons.1 hx with rfl | hx
          · assumption
          · exact h1 x hx
        · simp only [sumN, List.map_cons, List.sum_cons] at h2 ⊢
          omega
    · omega
/-- One more width, where all is well so far. -/
theorem ckW_step (left : Int) (w : Int) (ws : List Int) (h0 : 0 ≤ w) (h1 : w ≤ 60) (h2 : w ≤ left) : ckW left (w :: ws) = ckW (left - w) ws := by
  simp only [ckW]; rw [if_pos ⟨h0, h1⟩, if_neg (by omega)]
theorem drop_cons {α : Type} (l : List α) (k : Nat) (h : k < l.length) : l.drop k = l[k] :: l.drop (k + 1) := (List.drop_eq_getElem_cons h)
theorem getD_lt (l : List Int) (k : Nat) (h : k < l.length) : l[k]?.getD 0 = l[k] := by simp [List.getElem?_eq_getElem h]

theorem wraps_i64 (n : Int) (h0 : 0 ≤ n) (h1 : n < 2 ^ 62) : IntKind.i64.wrap n = n := by rw [IntKind.wrap_i64]; omega
theorem i64_or_lt (i : Nat) (x y : Int) (hx0 : 0 ≤ x) (hx : x % 2 ^ i = 0) (hx1 : x < 2 ^ 62) (hy0 : 0 ≤ y) (hy : y < 2 ^ i) (hy1 : y < 2 ^ 62) : bits .or .i64 x y = x + y :=
  bits_join .i64 62 (by decide) wraps_i64 i x y hx0 hx hx1 hy0 hy hy1
theorem sumN_take_le (ws : List Int) (j : Nat) : sumN (ws.take j) ≤ sumN ws := by
  have := sumN_append (ws.take j) (ws.drop j)
  rw [List.take_append_drop] at this; omega
theorem vals_snoc (l ws : List Int) (j : Nat) (x : Int) (h : ws.take (j + 1) = ws.take j ++ [x]) : valsOf l 0 (ws.take (j + 1)) = valsOf l 0 (ws.take j) ++ [fldOf l (sumN (ws.take j)) x.toNat] := by
  rw [h, valsOf_append]; simp [valsOf]
theorem sumN_snoc (ws : List Int) (j : Nat) (x : Int) (h : ws.take (j + 1) = ws.take j ++ [x]) (h0 : 0 ≤ x) : (sumN (ws.take (j + 1)) : Int) = sumN (ws.take j) + x := by
  rw [h, sumN_append]; simp [sumN]; omega
theorem shl1_or (x b : Int) (h0 : 0 ≤ x) (h1 : x < 2 ^ 60) (b0 : 0 ≤ b) (b1 : b < 2) : bits .or .i64 (x * 2) b = 2 * x + b := by
  rw [i64_or_lt 1 (x * 2) b (by omega) (by omega) (by omega) b0 (by omega) (by omega)]; omega
theorem u8_and1 (x : Int) (h0 : 0 ≤ x) (h1 : x < 256) : bits .and .u8 x 1 = x % 2 := bits_mask .u8 8 (by decide) wraps_u8 1 (by decide) x h0 h1
theorem i64_and1 (x : Int) (h0 : 0 ≤ x) (h1 : x < 2 ^ 62) : bits .and .i64 x 1 = x % 2 := bits_mask .i64 62 (by decide) wraps_i64 1 (by decide) x h0 h1
/-- A byte shifted down is a byte. -/
theorem div_byte (x : Int) (k : Nat) (h0 : 0 ≤ x) (h1 : x < 256) : 0 ≤ x / 2 ^ k ∧ x / 2 ^ k < 256 := by
  have hp : (0 : Int) < 2 ^ k := Int.pow_pos (by decide)
  have h2 := Int.ediv_le_self (2 ^ k) h0
  exact ⟨Int.ediv_nonneg h0 (by omega), by omega⟩
/-- One round of reading a field. -/
theorem fld_round (l : List Int) (a j : Nat) (hj : j < 60) (h0 : 0 ≤ l[(a + j) / 8]?.getD 0) (h1 : l[(a + j) / 8]?.getD 0 < 256) :
    bits .or .i64 (fldOf l a j * 2) (RowKit.wrap64 (bits .and .u8 (l[(a + j) / 8]?.getD 0 / 2 ^ (7 - (a + j) % 8)) 1)) = fldOf l a (j + 1) := by
  have hb := fldOf_bd l a j
  have hp := pow_le (j := j) (k := 59) (by omega)
  have hd := div_byte _ (7 - (a + j) % 8) h0 h1
  rw [u8_and1 _ hd.1 hd.2]
  have hbit : l[(a + j) / 8]?.getD 0 / 2 ^ (7 - (a + j) % 8) % 2 = bitOf l (a + j) := rfl
  rw [hbit]
  have h01 := bitOf_01 l (a + j)
  rw [IntWalk.wrap64_in _ ⟨by omega, by omega⟩, shl1_or _ _ hb.1 (by omega) h01.1 h01.2]
  rfl

/-! Writing. -/
/-- The bits of a value of w bits, the top one first. -/
def bitsV (w : Nat) (v : Int) : List Int := (List.range w).map fun i => v / 2 ^ (w - 1 - i) % 2
def bitsF (fs : List (Int × Int)) : List Int := fs.flatMap fun f => bitsV f.1.toNat f.2
def num8 (f : Nat → Int) : Int := f 0 * 128 + f 1 * 64 + f 2 * 32 + f 3 * 16 + f 4 * 8 + f 5 * 4 + f 6 * 2 + f 7
/-- The bytes of bits. -/
def packB (bs : List Int) : List Int := (List.range ((bs.length + 7) / 8)).map fun q => num8 fun r => bs[8 * q + r]?.getD 0
def ckF : List (Int × Int) → Int
  | [] => 0
  | f :: fs => if 0 ≤ f.1 ∧ f.1 ≤ 60 then (if 0 ≤ f.2 ∧ f.2 < 2 ^ f.1.toNat then ckF fs else 11) else 2
def wrCode (fs : List (Int × Int)) : Int := if 400 < fs.length then 1 else ckF fs
def wrBytes (fs : List (Int × Int)) : List Int := if wrCode fs = 0 then packB (bitsF fs) else []
def okF (f : Int × Int) : Prop := (0 ≤ f.1 ∧ f.1 ≤ 60) ∧ 0 ≤ f.2 ∧ f.2 < 2 ^ f.1.toNat

theorem wrCode_big {fs : List (Int × Int)} (h : 400 < fs.length) : wrCode fs = 1 := by rw [wrCode, if_pos h]
theorem wrCode_not {fs : List (Int × Int)} (h : ¬ 400 < fs.length) : wrCode fs = ckF fs := by rw [wrCode, if_neg h]
theorem ckF_step {f : Int × Int} {fs : List (Int × Int)} (h : okF f) : ckF (f :: fs) = ckF fs := by
  simp only [ckF]; rw [if_pos h.1, if_pos h.2]
theorem ckF_zero {fs : List (Int × Int)} (h : ckF fs = 0) : ∀ f ∈ fs, okF f := by
  induction fs with
  | nil => simp
  | cons g fs ih =>
    simp only [ckF] at h
    split at h
    · split at h
      · intro f hf
        rcases List.mem_cons.1 hf with rfl | hf
        · exact ⟨by assumption, by assumption⟩
        · exact ih h f hf
      · omega
    · omega
theorem ckF_of {fs : List (Int × Int)} (h : ∀ f ∈ fs, okF f) : ckF fs = 0 := by
  induction fs with
  | nil => rfl
  | cons g fs ih => rw [ckF_step (h g (by simp))]; exact ih fun f hf => h f (by simp [hf])

theorem bitsV_length (w : Nat) (v : Int) : (bitsV w v).length = w := by simp [bitsV]
theorem bitsV_at (w : Nat) (v : Int) (i : Nat) (h : i < w) : (bitsV w v)[i]? = some (v / 2 ^ (w - 1 - i) % 2) := by simp [bitsV, h]
theorem bitsF_append (a b : List (Int × Int)) : bitsF (a ++ b) = bitsF a ++ bitsF b := by simp [bitsF]
theorem bitsF_one (f : Int × Int) : bitsF [f] = bitsV f.1.toNat f.2 := by simp [bitsF]
theorem bitsF_length (fs : List (Int × Int)) : (bitsF fs).length = sumN (fs.map (·.1)) := by
  induction fs with
  | nil => rfl
  | cons f fs ih => simp only [bitsF, List.flatMap_cons, List.length_append, bitsV_length, sumN, List.map_cons, List.sum_cons] at ih ⊢; omega
theorem bits01V (w : Nat) (v : Int) : ∀ b ∈ bitsV w v, b = 0 ∨ b = 1 := by
  intro b hb
  obtain ⟨i, _, rfl⟩ := List.mem_map.1 hb
  omega
theorem bits01F (fs : List (Int × Int)) : ∀ b ∈ bitsF fs, b = 0 ∨ b = 1 := by
  intro b hb
  obtain ⟨f, _, hf⟩ := List.mem_flatMap.1 hb
  exact bits01V _ _ b hf

theorem num8_self (x : Int) (h0 : 0 ≤ x) (h1 : x < 256) : num8 (fun r => x / 2 ^ (7 - r) % 2) = x := by
  simp only [num8, Nat.reduceSub, Int.reducePow]
  omega
/-- Bytes are known by their bits. -/
theorem pack_of (l bs : List Int) (hl : l.length = (bs.length + 7) / 8) (hr : ∀ x ∈ l, 0 ≤ x ∧ x < 256) (hb : ∀ i, i < 8 * l.length → bitOf l i = bs[i]?.getD 0) : l = packB bs := by
  apply List.ext_getElem
  · simp [packB, hl]
  · intro q h1 h2
    have hx := hr l[q] (List.getElem_mem h1)
    simp only [packB, List.getElem_map, List.getElem_range]
    rw [← num8_self l[q] hx.1 hx.2]
    have key : ∀ r, r < 8 → l[q] / 2 ^ (7 - r) % 2 = bs[8 * q + r]?.getD 0 := by
      intro r hr8
      rw [← hb (8 * q + r) (by omega)]
      unfold bitOf
      rw [show (8 * q + r) / 8 = q by omega, show (8 * q + r) % 8 = r by omega, List.getElem?_eq_getElem h1]
      rfl
    simp only [num8]
    rw [key 0 (by omega), key 1 (by omega), key 2 (by omega), key 3 (by omega), key 4 (by omega), key 5 (by omega), key 6 (by omega), key 7 (by omega)]

theorem nat_or_bit : ∀ x < 256, ∀ s < 8, x / 2 ^ s % 2 = 0 → x ||| 2 ^ s = x + 2 ^ s := by decide +kernel
theorem nat_bit_add : ∀ x < 256, ∀ s < 8, x / 2 ^ s % 2 = 0 → x + 2 ^ s < 256 ∧ ∀ r < 8, (x + 2 ^ s) / 2 ^ r % 2 = if r = s then 1 else x / 2 ^ r % 2 := by decide +kernel
theorem cast_bit (n s : Nat) : ((n : Int) / 2 ^ s % 2) = ((n / 2 ^ s % 2 : Nat) : Int) := by simp
theorem cast_add (n s : Nat) : ((n : Int) + 2 ^ s) = ((n + 2 ^ s : Nat) : Int) := by simp
theorem bit_add (x : Int) (s : Nat) (h0 : 0 ≤ x) (h1 : x < 256) (hs : s < 8) (hb : x / 2 ^ s % 2 = 0) : 0 ≤ x + 2 ^ s ∧ x + 2 ^ s < 256 ∧ ∀ r < 8, (x + 2 ^ s) / 2 ^ r % 2 = if r = s then 1 else x / 2 ^ r % 2 := by
  obtain ⟨n, rfl⟩ := Int.eq_ofNat_of_zero_le h0
  rw [cast_bit] at hb
  obtain ⟨h2, h3⟩ := nat_bit_add n (by omega) s hs (by omega)
  rw [cast_add]
  refine ⟨Int.natCast_nonneg _, by omega, fun r hr => ?_⟩
  rw [cast_bit, cast_bit, h3 r hr]
  split <;> rfl
theorem or_bit (x : Int) (s : Nat) (h0 : 0 ≤ x) (h1 : x < 256) (hs : s < 8) (hb : x / 2 ^ s % 2 = 0) : bits .or .u8 x (2 ^ s) = x + 2 ^ s := by
  obtain ⟨n, rfl⟩ := Int.eq_ofNat_of_zero_le h0
  rw [cast_bit] at hb
  have hp : 2 ^ s < 2 ^ 8 := Nat.pow_lt_pow_right (by decide) hs
  have h := (bits_nat .u8 8 (by decide) wraps_u8 n (2 ^ s) (by omega) hp).2
  rw [nat_or_bit n (by omega) s hs (by omega)] at h
  rw [cast_add, ← h]
  simp
theorem or_zero (x : Int) (h0 : 0 ≤ x) (h1 : x < 256) : bits .or .u8 x 0 = x := by
  obtain ⟨n, rfl⟩ := Int.eq_ofNat_of_zero_le h0
  have h := (bits_nat .u8 8 (by decide) wraps_u8 n 0 (by omega) (by decide)).2
  simpa using h

/-- Bits that are set one by one. -/
theorem bitOf_set (l : List Int) (i : Nat) (hi : i / 8 < l.length) (hr : ∀ x ∈ l, 0 ≤ x ∧ x < 256) (hb : bitOf l i = 0) (j : Nat) :
    bitOf (l.set (i / 8) (l[i / 8]?.getD 0 + 2 ^ (7 - i % 8))) j = if j = i then 1 else bitOf l j := by
  have hx := hr l[i / 8] (List.getElem_mem hi)
  have hg : l[i / 8]?.getD 0 = l[i / 8] := by rw [List.getElem?_eq_getElem hi]; rfl
  unfold bitOf at hb ⊢
  rw [hg] at hb ⊢
  obtain ⟨_, _, h3⟩ := bit_add l[i / 8] (7 - i % 8) hx.1 hx.2 (by omega) hb
  by_cases hq : j / 8 = i / 8
  · rw [List.getElem?_set, if_pos hq.symm, if_pos (by omega)]
    show (l[i / 8] + 2 ^ (7 - i % 8)) / 2 ^ (7 - j % 8) % 2 = _
    rw [h3 (7 - j % 8) (by omega)]
    by_cases hji : j = i
    · subst hji; simp
    · rw [if_neg (by omega), if_neg hji, hq, List.getElem?_eq_getElem hi]; rfl
  · rw [List.getElem?_set, if_neg (fun h => hq h.symm), if_neg (by rintro rfl; exact hq rfl)]
theorem set_range (l : List Int) (i : Nat) (hi : i / 8 < l.length) (hr : ∀ x ∈ l, 0 ≤ x ∧ x < 256) (hb : bitOf l i = 0) : ∀ x ∈ l.set (i / 8) (l[i / 8]?.getD 0 + 2 ^ (7 - i % 8)), 0 ≤ x ∧ x < 256 := by
  intro x hx
  rcases List.mem_or_eq_of_mem_set hx with h | rfl
  · exact hr x h
  · have hx := hr l[i / 8] (List.getElem_mem hi)
    have hg : l[i / 8]?.getD 0 = l[i / 8] := by rw [List.getElem?_eq_getElem hi]; rfl
    unfold bitOf at hb
    rw [hg] at hb ⊢
    obtain ⟨h1, h2, _⟩ := bit_add l[i / 8] (7 - i % 8) hx.1 hx.2 (by omega) hb
    exact ⟨h1, h2⟩
end Go.Baro
