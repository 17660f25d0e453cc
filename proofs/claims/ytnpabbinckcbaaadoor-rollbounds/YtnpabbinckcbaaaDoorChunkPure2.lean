/- Chunks that are read back, cut, extended; two codes in a window; in plain numbers. No statement of the seat is proved here; no condition. -/
import Derived.Test.YtnpabbinckcbaaaDoorChunkPure
set_option linter.unusedSimpArgs false
set_option linter.unusedVariables false
namespace Go.Baro

/-! A window. -/
theorem zOnes_shift {l l' : List Int} {d : Nat} : ∀ (f a k : Nat), (∀ i, a ≤ i → i < 8 * l'.length → bitOf l' i = bitOf l (i + d)) → 8 * l'.length + d ≤ 8 * l.length → (8 * l'.length + d = 8 * l.length ∨ a + f ≤ 8 * l'.length) →
    zOnes l f (a + d) k = (zOnes l' f a k).map fun r => (r.1, r.2 + d)
  | 0, a, k, _, _, _ => rfl
  | f + 1, a, k, hb, hl, he => by
    simp only [zOnes]
    by_cases h1 : 8 * l'.length ≤ a
    · rw [if_pos h1, if_pos (by omega)]; rfl
    · rw [if_neg h1, if_neg (by omega), ← hb a (Nat.le_refl _) (by omega)]
      by_cases h2 : bitOf l' a = 0
      · rw [if_pos h2, if_pos h2]
        simp only [Option.map_some]
        rw [Nat.add_right_comm]
      · rw [if_neg h2, if_neg h2, Nat.add_right_comm]
        exact zOnes_shift f (a + 1) (k + 1) (fun i hi => hb i (by omega)) hl (by omega)
theorem fldOf_shift {l l' : List Int} {b d : Nat} : ∀ (k : Nat), (∀ i, i < k → bitOf l' (b + i) = bitOf l (b + i + d)) → fldOf l (b + d) k = fldOf l' b k
  | 0, _ => rfl
  | k + 1, h => by
    rw [fldOf, fldOf, fldOf_shift k (fun i hi => h i (by omega)), h k (by omega), Nat.add_right_comm]
def shZ (d : Nat) (r : Int × Nat × Int) : Int × Nat × Int := if r.2.2 = 0 then (r.1, r.2.1 + d, 0) else r
theorem zAt_shift {l l' : List Int} {d a : Nat} (hb : ∀ i, a ≤ i → i < 8 * l'.length → bitOf l' i = bitOf l (i + d)) (hl : 8 * l'.length + d ≤ 8 * l.length) (he : 8 * l'.length + d = 8 * l.length ∨ a + 63 ≤ 8 * l'.length) :
    zAt l (a + d) = shZ d (zAt l' a) := by
  have ho := zOnes_shift 4 a 0 hb hl (by omega)
  rcases hz : zOnes l' 4 a 0 with _ | ⟨k, b⟩
  · rw [hz] at ho
    rw [zAt_none hz, zAt_none ho]
    rfl
  · rw [hz] at ho
    simp only [Option.map_some] at ho
    obtain ⟨hk, hb1, hb2, _⟩ := zOnes_inv hz
    have hzb := z_bounds hk
    by_cases hs : b + zwid k ≤ 8 * l'.length
    · have hf : fldOf l (b + d) (zwid k) = fldOf l' b (zwid k) := fldOf_shift _ (fun i hi => hb _ (by omega) (by omega))
      have hs2 : b + d + zwid k ≤ 8 * l.length := by omega
      by_cases hm : 0 < zwid k ∧ fldOf l' b (zwid k) < zmin k
      · rw [zAt_form hz hs hm, zAt_form ho hs2 (by rw [hf]; exact hm)]
        rfl
      · rw [zAt_ok hz hs hm, zAt_ok ho hs2 (by rw [hf]; exact hm), hf]
        unfold shZ
        rw [if_pos rfl, Nat.add_right_comm]
    · have h63 : zlen k + zwid k ≤ 63 := by
        rcases (by omega : k = 0 ∨ k = 1 ∨ k = 2 ∨ k = 3 ∨ k = 4) with rfl | rfl | rfl | rfl | rfl <;> decide
      rw [zAt_end hz hs, zAt_end ho (by omega)]
      rfl
theorem zAt_zero {l : List Int} {a : Nat} (h : bitOf l a = 0) (hl : a < 8 * l.length) : zAt l a = (0, a + 1, 0) := by
  have hz : zOnes l 4 a 0 = some (0, a + 1) := by
    simp only [zOnes]
    rw [if_neg (by omega), if_pos h]
  rw [zAt_ok hz (by show a + 1 + 0 ≤ _; omega) (fun hh => absurd hh.1 (by decide))]
  rfl
theorem decL_zeros {l : List Int} {c : Nat} : ∀ (s a : Nat), (∀ i, i < s → bitOf l (a + i) = 0) → a + s ≤ 8 * l.length →
    decL l (s + c) a = if (decL l c (a + s)).2 = 0 then (List.replicate s 0 ++ (decL l c (a + s)).1, 0) else ([], (decL l c (a + s)).2)
  | 0, a, _, _ => by
    rw [Nat.zero_add, Nat.add_zero]
    split
    · rename_i h; rw [← h]; rfl
    · rename_i h; rw [← decL_err l c a h]
  | s + 1, a, hb, hl => by
    have hz := zAt_zero (l := l) (a := a) (hb 0 (by omega)) (by omega)
    have ih := decL_zeros (l := l) (c := c) s (a + 1) (fun i hi => by rw [Nat.add_assoc, Nat.add_comm 1 i]; exact hb (i + 1) (by omega)) (by omega)
    rw [show s + 1 + c = (s + c) + 1 by omega]
    simp only [decL, hz, if_true]
    rw [ih, show a + 1 + s = a + (s + 1) by omega]
    by_cases h : (decL l c (a + (s + 1))).2 = 0
    · simp only [h, if_true]
      rfl
    · simp only [h, if_false]

theorem mask_bits : ∀ x < 256, ∀ s < 8, ∀ r < 8, (x % 2 ^ (8 - s)) / 2 ^ (7 - r) % 2 = if r < s then 0 else x / 2 ^ (7 - r) % 2 := by decide +kernel
theorem mask_byte (x : Int) (h0 : 0 ≤ x) (h1 : x < 256) (s r : Nat) (hs : s < 8) (hr : r < 8) : (x % 2 ^ (8 - s)) / 2 ^ (7 - r) % 2 = if r < s then 0 else x / 2 ^ (7 - r) % 2 := by
  obtain ⟨n, rfl⟩ := Int.eq_ofNat_of_zero_le h0
  have := mask_bits n (by omega) s hs r hr
  split
  · rename_i h
    rw [if_pos h] at this
    exact_mod_cast this
  · rename_i h
    rw [if_neg h] at this
    exact_mod_cast this
/-- The bytes in which two codes lie, the bits ahead of them cleared. -/
def winB (l : List Int) (q s : Nat) : List Int := ((l.drop q).take 17).set 0 (((l.drop q).take 17)[0]?.getD 0 % 2 ^ (8 - s))
theorem winB_len (l : List Int) (q s : Nat) : (winB l q s).length = min 17 (l.length - q) := by simp [winB]
theorem winB_bit {l : List Int} (hr : ∀ x ∈ l, 0 ≤ x ∧ x < 256) (q s i : Nat) (hs : s < 8) (hi : i < 8 * (winB l q s).length) : bitOf (winB l q s) i = if i < s then 0 else bitOf l (8 * q + i) := by
  rw [winB_len] at hi
  rw [← bitOf_drop, ← bitOf_take (l.drop q) 17 i (by omega)]
  have hlen : ((l.drop q).take 17).length = min 17 (l.length - q) := by simp
  have hrm : ∀ x ∈ (l.drop q).take 17, 0 ≤ x ∧ x < 256 := fun x hx => hr x (List.mem_of_mem_drop (List.mem_of_mem_take hx))
  unfold winB
  generalize (l.drop q).take 17 = m at *
  unfold bitOf
  rw [List.getElem?_set]
  by_cases h8 : 0 = i / 8
  · have h0 : 0 < m.length := by omega
    have hx := hrm m[0] (List.getElem_mem h0)
    rw [if_pos h8, if_pos h0, ← h8, List.getElem?_eq_getElem h0]
    simp only [Option.getD_some]
    rw [show i % 8 = i by omega]
    exact mask_byte m[0] hx.1 hx.2 s i hs (by omega)
  · rw [if_neg h8, if_neg (by omega)]
theorem winB_range {l : List Int} (hr : ∀ x ∈ l, 0 ≤ x ∧ x < 256) (q s : Nat) : ∀ x ∈ winB l q s, 0 ≤ x ∧ x < 256 := by
  intro x hx
  have hrm : ∀ x ∈ (l.drop q).take 17, 0 ≤ x ∧ x < 256 := fun x hx => hr x (List.mem_of_mem_drop (List.mem_of_mem_take hx))
  unfold winB at hx
  rcases List.mem_or_eq_of_mem_set hx with h | rfl
  · exact hrm x h
  · have h1 : (0 : Int) ≤ ((l.drop q).take 17)[0]?.getD 0 ∧ ((l.drop q).take 17)[0]?.getD 0 < 256 := by
      cases h : ((l.drop q).take 17)[0]? with
      | none => simp
      | some y => exact hrm y (List.mem_of_getElem? h)
    have hp : (0 : Int) < 2 ^ (8 - s) := Int.pow_pos (by decide)
    have hq := pow_le (j := 8 - s) (k := 8) (by omega)
    have hlt := Int.emod_lt_of_pos (((l.drop q).take 17)[0]?.getD 0) hp
    exact ⟨Int.emod_nonneg _ (by omega), by omega⟩
theorem winB_zero (l : List Int) (hr : ∀ x ∈ l, 0 ≤ x ∧ x < 256) (q : Nat) : winB l q 0 = (l.drop q).take 17 := by
  unfold winB
  generalize hm : (l.drop q).take 17 = m
  have hrm : ∀ x ∈ m, 0 ≤ x ∧ x < 256 := fun x hx => hr x (List.mem_of_mem_drop (List.mem_of_mem_take (by rw [hm]; exact hx)))
  cases m with
  | nil => rfl
  | cons x m =>
    have := hrm x (by simp)
    simp only [List.getElem?_cons_zero, Option.getD_some, List.set_cons_zero]
    rw [show (2 : Int) ^ (8 - 0) = 256 by decide, Int.emod_eq_of_lt this.1 this.2]
/-- What Decode answers of the window. -/
theorem win_two {l : List Int} (hr : ∀ x ∈ l, 0 ≤ x ∧ x < 256) (a : Nat) (ha : a ≤ 8 * l.length) :
    dcC (winB l (a / 8) (a % 8)) ((a : Int) % 8 + 2) = (zTwo l a).2.2.2 ∧ ((zTwo l a).2.2.2 = 0 → dcY (winB l (a / 8) (a % 8)) ((a : Int) % 8 + 2) = List.replicate (a % 8) 0 ++ [(zTwo l a).1, (zTwo l a).2.1]) := by
  have hs : a % 8 < 8 := Nat.mod_lt _ (by decide)
  have hlen := winB_len l (a / 8) (a % 8)
  have hbit := winB_bit hr (a / 8) (a % 8)
  have htn : ((a : Int) % 8 + 2).toNat = a % 8 + 2 := by omega
  have hda : a % 8 + 8 * (a / 8) = a := by omega
  unfold dcC dcY
  rw [if_pos (by omega), if_pos (by omega), htn]
  generalize winB l (a / 8) (a % 8) = m at *
  have hz := decL_zeros (l := m) (c := 2) (a % 8) 0 (fun i hi => by rw [Nat.zero_add, hbit i hs (by omega), if_pos hi]) (by omega)
  rw [Nat.zero_add] at hz
  rw [hz]
  have hsh : ∀ b, a % 8 ≤ b → b ≤ a % 8 + 63 → zAt l (b + 8 * (a / 8)) = shZ (8 * (a / 8)) (zAt m b) := fun b h1 h2 =>
    zAt_shift (fun i hi hi' => by rw [hbit i hs hi', if_neg (by omega), Nat.add_comm]) (by omega) (by omega)
  have e1 := hsh (a % 8) (Nat.le_refl _) (by omega)
  rw [hda] at e1
  simp only [decL]
  by_cases h1 : (zAt m (a % 8)).2.2 = 0
  · have hl1 := zAt_lt h1
    rw [shZ, if_pos h1] at e1
    have e2 := hsh (zAt m (a % 8)).2.1 hl1.1 (by omega)
    have hz1 : (zAt l a).2.2 = 0 := by rw [e1]
    have hz2 : zAt l (zAt l a).2.1 = shZ (8 * (a / 8)) (zAt m (zAt m (a % 8)).2.1) := by rw [e1]; exact e2
    by_cases h2 : (zAt m (zAt m (a % 8)).2.1).2.2 = 0
    · rw [shZ, if_pos h2] at hz2
      rw [zTwo_ok hz1 (by rw [hz2]), hz2, e1]
      simp only [h1, h2, if_true]
      exact ⟨trivial, fun _ => trivial⟩
    · rw [shZ, if_neg h2] at hz2
      rw [zTwo_bad2 hz1 (by rw [hz2]; exact h2), hz2]
      simp only [h1, h2, if_true, if_false]
      exact ⟨trivial, fun h => h.elim⟩
  · rw [shZ, if_neg h1] at e1
    rw [zTwo_bad1 (by rw [e1]; exact h1), e1]
    simp only [h1, if_false]
    exact ⟨trivial, fun h => h.elim⟩

theorem zTwo_err {l : List Int} {a : Nat} (h : (zTwo l a).2.2.2 ≠ 0) : (zTwo l a).1 = 0 ∧ (zTwo l a).2.1 = 0 := by
  by_cases h1 : (zAt l a).2.2 = 0
  · by_cases h2 : (zAt l (zAt l a).2.1).2.2 = 0
    · rw [zTwo_ok h1 h2] at h; exact absurd rfl h
    · rw [zTwo_bad2 h1 h2]; exact ⟨rfl, rfl⟩
  · rw [zTwo_bad1 h1]; exact ⟨rfl, rfl⟩
/-! The end. -/
theorem end_bits : ∀ x < 256, ∀ u < 8, (x * 2 ^ u) % 256 = 0 ↔ ∀ r < 8, u ≤ r → x / 2 ^ (7 - r) % 2 = 0 := by decide +kernel
theorem end_byte (x : Int) (h0 : 0 ≤ x) (h1 : x < 256) (u : Nat) (hu : u < 8) : (x * 2 ^ u) % 256 = 0 ↔ ∀ r < 8, u ≤ r → x / 2 ^ (7 - r) % 2 = 0 := by
  obtain ⟨n, rfl⟩ := Int.eq_ofNat_of_zero_le h0
  have := end_bits n (by omega) u hu
  have e : ((n : Int) * 2 ^ u) % 256 = ((n * 2 ^ u % 256 : Nat) : Int) := by rw [Int.natCast_emod, Int.natCast_mul, Int.natCast_pow]; rfl
  rw [e]
  constructor
  · intro h r hr hur
    have h2 := this.1 (by omega) r hr hur
    rw [cast_bit, h2]
    rfl
  · intro h
    have h2 := this.2 (fun r hr hur => by have h3 := h r hr hur; rw [cast_bit] at h3; omega)
    rw [h2]
    rfl
theorem EndB_whole {l : List Int} {a : Nat} (h : a % 8 = 0) : EndB l a ↔ l.length = a / 8 := by
  unfold EndB
  constructor
  · rintro ⟨h1, _⟩; omega
  · intro h1; exact ⟨by omega, fun i _ _ => by omega⟩
theorem EndB_part {l : List Int} (hr : ∀ x ∈ l, 0 ≤ x ∧ x < 256) {a : Nat} (h : a % 8 ≠ 0) {x : Int} (hx : l[a / 8]? = some x) : EndB l a ↔ l.length = a / 8 + 1 ∧ (x * 2 ^ (a % 8)) % 256 = 0 := by
  have hxr := hr x (List.mem_of_getElem? hx)
  have hs : a % 8 < 8 := Nat.mod_lt _ (by decide)
  rw [end_byte x hxr.1 hxr.2 (a % 8) hs]
  unfold EndB
  constructor
  · rintro ⟨h1, h2⟩
    refine ⟨by omega, fun r hr' hur => ?_⟩
    have := h2 (8 * (a / 8) + r) (by omega) (by omega)
    unfold bitOf at this
    rw [show (8 * (a / 8) + r) / 8 = a / 8 by omega, show (8 * (a / 8) + r) % 8 = r by omega, hx] at this
    exact this
  · rintro ⟨h1, h2⟩
    refine ⟨by omega, fun i hi hi' => ?_⟩
    unfold bitOf
    rw [show i / 8 = a / 8 by omega, hx]
    exact h2 (i % 8) (by omega) (by omega)
theorem EndB_short {l : List Int} {a : Nat} (h : a % 8 ≠ 0) (hx : l.length ≠ a / 8 + 1) : ¬ EndB l a := by
  rintro ⟨h1, _⟩
  omega

/-! Whole chunks. -/
theorem fin_ok {l : List Int} {r : List (Int × Int) × Nat × Int} (h : r.2.2 = 0) (he : EndB l r.2.1) : fin l r = (r.1, 0) := by unfold fin; rw [if_pos h, if_pos he]
theorem fin_form {l : List Int} {r : List (Int × Int) × Nat × Int} (h : r.2.2 = 0) (he : ¬ EndB l r.2.1) : fin l r = ([], 4) := by unfold fin; rw [if_pos h, if_neg he]
theorem fin_err {l : List Int} {r : List (Int × Int) × Nat × Int} (h : r.2.2 ≠ 0) : fin l r = ([], r.2.2) := by unfold fin; rw [if_neg h]
theorem chD_big {x : Int} {m : List Int} (h : 120 < x) : chD (x :: m) = ([], 4) := if_pos h
theorem chD_small {x : Int} {m : List Int} (h : ¬ 120 < x) : chD (x :: m) = fin (x :: m) (decA (x :: m) x.toNat 8 st0 []) := if_neg h
theorem chD_of {l : List Int} {x : Int} (hx : l[0]? = some x) (h : ¬ 120 < x) : chD l = fin l (decA l x.toNat 8 st0 []) := by
  cases l with
  | nil => simp at hx
  | cons y m => simp at hx; subst hx; exact chD_small h
theorem chD_over {l : List Int} {x : Int} (hx : l[0]? = some x) (h : 120 < x) : chD l = ([], 4) := by
  cases l with
  | nil => simp at hx
  | cons y m => simp at hx; subst hx; exact chD_big h
theorem ch_01 (l : List (Int × Int)) : ∀ b ∈ bitsV 8 (l.length : Int) ++ encB (numL st0 l), b = 0 ∨ b = 1 := by
  intro b hb
  rcases List.mem_append.1 hb with h | h
  · exact bits01V _ _ b h
  · exact encB_01 _ b h
theorem chY_range (l : List (Int × Int)) : ∀ x ∈ chY l, 0 ≤ x ∧ x < 256 := by
  by_cases h : chC l = 0
  · rw [chY_bits h]; exact packB_range _ (ch_01 l)
  · rw [chY_bad h]; simp
theorem chY_len {l : List (Int × Int)} (h : chC l = 0) : (chY l).length = (8 + (encB (numL st0 l)).length + 7) / 8 := by
  rw [chY_bits h, packB_len, List.length_append, bitsV_len]
theorem chY_bit {l : List (Int × Int)} (h : chC l = 0) (i : Nat) (hi : 8 + i < 8 * (chY l).length) : bitOf (chY l) (8 + i) = (encB (numL st0 l))[i]?.getD 0 := by
  rw [chY_bits h] at hi ⊢
  rw [packB_bit _ (ch_01 l) _ hi, List.getElem?_append_right (by rw [bitsV_len]; omega), bitsV_len, Nat.add_sub_cancel_left]
/-- What is read of samples' bytes. -/
theorem read_end {l : List Int} (hr : ∀ x ∈ l, 0 ≤ x ∧ x < 256) {x : Int} (hx : l[0]? = some x) (h120 : ¬ 120 < x) {xs : List (Int × Int)} (hl : xs.length = x.toNat) (hc : ckL st0 xs = 0)
    (hb : ∀ i, i < (encB (numL st0 xs)).length → bitOf l (8 + i) = (encB (numL st0 xs))[i]?.getD 0) : chC xs = 0 ∧ (EndB l (8 + (encB (numL st0 xs)).length) ↔ chY xs = l) := by
  have hxr := hr x (List.mem_of_getElem? hx)
  have hz : chC xs = 0 := by rw [chC_of (by omega)]; exact hc
  refine ⟨hz, ?_⟩
  constructor
  · rintro ⟨h1, h2⟩
    rw [chY_bits hz]
    symm
    refine pack_of l _ (by rw [List.length_append, bitsV_len]; exact h1) hr fun i hi => ?_
    rcases Nat.lt_or_ge i 8 with h8 | h8
    · rw [List.getElem?_append_left (by rw [bitsV_len]; exact h8), bitsV_at _ _ _ h8, Option.getD_some, hl]
      unfold bitOf
      rw [show i / 8 = 0 by omega, hx, show i % 8 = i by omega, Option.getD_some, Int.toNat_of_nonneg hxr.1]
    · rw [List.getElem?_append_right (by rw [bitsV_len]; exact h8), bitsV_len]
      rcases Nat.lt_or_ge (i - 8) (encB (numL st0 xs)).length with h9 | h9
      · rw [← hb (i - 8) h9, show 8 + (i - 8) = i by omega]
      · rw [h2 i (by omega) hi, List.getElem?_eq_none h9]
        rfl
  · intro he
    have hlen := chY_len hz
    rw [he] at hlen
    refine ⟨by omega, fun i h1 h2 => ?_⟩
    have := chY_bit hz (i - 8) (by rw [he]; omega)
    rw [he, show 8 + (i - 8) = i by omega, List.getElem?_eq_none (by omega)] at this
    exact this
theorem chunk_fixed {l : List Int} (hr : ∀ x ∈ l, 0 ≤ x ∧ x < 256) (h : (chD l).2 = 0) : chC (chD l).1 = 0 ∧ chY (chD l).1 = l := by
  cases l with
  | nil => exact absurd h (by decide)
  | cons x m =>
    by_cases hx : 120 < x
    · rw [chD_big hx] at h; exact absurd h (by decide)
    rw [chD_small hx] at h ⊢
    by_cases hd : (decA (x :: m) x.toNat 8 st0 []).2.2 = 0
    · obtain ⟨xs, h1, h2, h3, h4, h5⟩ := decA_inv (x :: m) x.toNat 8 st0 [] st0_ok (by simp; omega) hd
      obtain ⟨g1, g2⟩ := read_end hr (x := x) rfl hx h1 h2 h5
      rw [h3] at h ⊢
      by_cases he : EndB (x :: m) (8 + (encB (numL st0 xs)).length)
      · rw [fin_ok rfl he]
        exact ⟨g1, g2.1 he⟩
      · rw [fin_form rfl he] at h; exact absurd h (by decide)
    · rw [fin_err hd] at h; exact absurd h hd
theorem chD_err (l : List Int) : (chD l).2 = 0 ∨ ((chD l).2 = 4 ∨ (chD l).2 = 5) ∧ (chD l).1 = [] := by
  cases l with
  | nil => exact .inr ⟨.inr rfl, rfl⟩
  | cons x m =>
    by_cases hx : 120 < x
    · rw [chD_big hx]; exact .inr ⟨.inl rfl, rfl⟩
    rw [chD_small hx]
    have hc := decA_cases (x :: m) x.toNat 8 st0 []
    by_cases hd : (decA (x :: m) x.toNat 8 st0 []).2.2 = 0
    · by_cases he : EndB (x :: m) (decA (x :: m) x.toNat 8 st0 []).2.1
      · rw [fin_ok hd he]; exact .inl rfl
      · rw [fin_form hd he]; exact .inr ⟨.inl rfl, rfl⟩
    · rw [fin_err hd]; exact .inr ⟨hc.resolve_left hd, rfl⟩
theorem chD_length (l : List Int) : (chD l).1.length ≤ 120 := by
  rcases chD_err l with h | ⟨_, h⟩
  · cases l with
    | nil => exact absurd h (by decide)
    | cons x m =>
      by_cases hx : 120 < x
      · rw [chD_big hx]; simp
      rw [chD_small hx] at h ⊢
      by_cases hd : (decA (x :: m) x.toNat 8 st0 []).2.2 = 0
      · obtain ⟨xs, h1, _, h3, _, _⟩ := decA_inv (x :: m) x.toNat 8 st0 [] st0_ok (by simp; omega) hd
        rw [h3] at h ⊢
        by_cases he : EndB (x :: m) (8 + (encB (numL st0 xs)).length)
        · rw [fin_ok rfl he]
          simp only [List.nil_append]
          omega
        · rw [fin_form rfl he]; simp
      · rw [fin_err hd]; simp
  · rw [h]; simp
theorem chY_head {l : List (Int × Int)} (h : chC l = 0) : (chY l)[0]? = some (l.length : Int) := by rw [chY_ok h]; rfl
theorem chunk_more {s : List (Int × Int)} (h : chC s = 0) (m : List Int) (hm : m ≠ []) : chD (chY s ++ m) = ([], 4) := by
  have hz := chC_zero h
  have hlen := chY_len h
  have hl : (chY s ++ m).length = (chY s).length + m.length := List.length_append
  have hmp : 0 < m.length := List.length_pos_iff.2 hm
  rw [chD_of (l := chY s ++ m) (x := s.length) (by rw [List.getElem?_append_left (by omega)]; exact chY_head h) (by omega), Int.toNat_natCast]
  rw [decA_back (chY s ++ m) s 8 st0 [] st0_ok hz.2 (by omega) (fun i hi => by rw [bitOf_append _ _ _ (by omega), chY_bit h i (by omega)])]
  exact fin_form rfl (by rintro ⟨h1, _⟩; dsimp only at h1; omega)
theorem chunk_back {s : List (Int × Int)} (h : chC s = 0) : chD (chY s) = (s, 0) := by
  have hz := chC_zero h
  have hlen := chY_len h
  rw [chD_of (l := chY s) (x := s.length) (chY_head h) (by omega), Int.toNat_natCast]
  rw [decA_back (chY s) s 8 st0 [] st0_ok hz.2 (by omega) (fun i hi => chY_bit h i (by omega))]
  refine fin_ok rfl ⟨by dsimp only; omega, fun i h1 h2 => ?_⟩
  dsimp only at h1
  have := chY_bit h (i - 8) (by omega)
  rw [show 8 + (i - 8) = i by omega, List.getElem?_eq_none (by omega)] at this
  exact this
theorem chunk_cut {s : List (Int × Int)} (h : chC s = 0) (k : Nat) (hk : k < (chY s).length) : chD ((chY s).take k) = ([], 5) := by
  have hz := chC_zero h
  have hlen := chY_len h
  rcases Nat.eq_zero_or_pos k with rfl | hp
  · rfl
  have hl : ((chY s).take k).length = k := by rw [List.length_take]; omega
  rw [chD_of (l := (chY s).take k) (x := s.length) (by rw [List.getElem?_take, if_pos hp]; exact chY_head h) (by omega), Int.toNat_natCast]
  rw [decA_short ((chY s).take k) s 8 st0 [] st0_ok hz.2 (by omega) (by omega) (fun i hi => by rw [bitOf_take _ _ _ (by omega), chY_bit h i (by omega)])]
  exact fin_err (by decide)
end Go.Baro
