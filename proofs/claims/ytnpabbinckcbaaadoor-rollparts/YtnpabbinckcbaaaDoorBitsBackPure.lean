/- What was written is read, in plain numbers. No statement of the seat is proved here; no condition. -/
import Derived.Test.YtnpabbinckcbaaaDoorBitsPure
set_option linter.unusedSimpArgs false
set_option linter.unusedVariables false
namespace Go.Baro

theorem num8_bit (f : Nat → Int) (h : ∀ r, 0 ≤ f r ∧ f r ≤ 1) (r : Nat) (hr : r < 8) : num8 f / 2 ^ (7 - r) % 2 = f r := by
  have h0 := h 0; have h1 := h 1; have h2 := h 2; have h3 := h 3; have h4 := h 4; have h5 := h 5; have h6 := h 6; have h7 := h 7
  clear h
  have hc : r = 0 ∨ r = 1 ∨ r = 2 ∨ r = 3 ∨ r = 4 ∨ r = 5 ∨ r = 6 ∨ r = 7 := by omega
  rcases hc with rfl | rfl | rfl | rfl | rfl | rfl | rfl | rfl <;> simp only [num8, Nat.reduceSub, Int.reducePow] <;> omega
theorem num8_range (f : Nat → Int) (h : ∀ r, 0 ≤ f r ∧ f r ≤ 1) : 0 ≤ num8 f ∧ num8 f < 256 := by
  have h0 := h 0; have h1 := h 1; have h2 := h 2; have h3 := h 3; have h4 := h 4; have h5 := h 5; have h6 := h 6; have h7 := h 7
  simp only [num8]; omega
theorem get01 (bs : List Int) (h : ∀ b ∈ bs, b = 0 ∨ b = 1) (i : Nat) : 0 ≤ bs[i]?.getD 0 ∧ bs[i]?.getD 0 ≤ 1 := by
  cases hi : bs[i]? with
  | none => simp
  | some b => rcases h b (List.mem_of_getElem? hi) with rfl | rfl <;> simp
theorem packB_len (bs : List Int) : (packB bs).length = (bs.length + 7) / 8 := by simp [packB]
theorem packB_range (bs : List Int) (h : ∀ b ∈ bs, b = 0 ∨ b = 1) : ∀ x ∈ packB bs, 0 ≤ x ∧ x < 256 := by
  intro x hx
  obtain ⟨q, _, rfl⟩ := List.mem_map.1 hx
  exact num8_range _ fun r => get01 bs h _
theorem packB_bit (bs : List Int) (h : ∀ b ∈ bs, b = 0 ∨ b = 1) (i : Nat) (hi : i < 8 * (packB bs).length) : bitOf (packB bs) i = bs[i]?.getD 0 := by
  rw [packB_len] at hi
  have hq : i / 8 < (bs.length + 7) / 8 := by omega
  have hg : (packB bs)[i / 8]? = some (num8 fun r => bs[8 * (i / 8) + r]?.getD 0) := by simp [packB, hq]
  have e : 8 * (i / 8) + i % 8 = i := Nat.div_add_mod i 8
  have hb := num8_bit (fun r => bs[8 * (i / 8) + r]?.getD 0) (fun r => get01 bs h _) (i % 8) (by omega)
  unfold bitOf
  rw [hg, Option.getD_some, hb, e]
theorem bitOf_append (l m : List Int) (i : Nat) (h : i < 8 * l.length) : bitOf (l ++ m) i = bitOf l i := by
  unfold bitOf
  rw [List.getElem?_append_left (by omega)]
theorem ediv_step (v : Int) (k : Nat) : 2 * (v / 2 ^ (k + 1)) + v / 2 ^ k % 2 = v / 2 ^ k := by
  have h : v / 2 ^ (k + 1) = v / 2 ^ k / 2 := by
    rw [Int.pow_succ, Int.ediv_ediv_of_nonneg (Int.le_of_lt (Int.pow_pos (by decide)))]
  rw [h]; omega
theorem fld_back (l : List Int) (a w : Nat) (v : Int) (h0 : 0 ≤ v) (h1 : v < 2 ^ w) (hb : ∀ i, i < w → bitOf l (a + i) = v / 2 ^ (w - 1 - i) % 2) : fldOf l a w = v := by
  have key : ∀ k, k ≤ w → fldOf l a k = v / 2 ^ (w - k) := by
    intro k
    induction k with
    | zero => intro _; simp only [fldOf, Nat.sub_zero]; exact (Int.ediv_eq_zero_of_lt h0 h1).symm
    | succ k ih =>
      intro hk
      rw [fldOf, ih (by omega), hb k (by omega)]
      have := ediv_step v (w - (k + 1))
      rw [show w - (k + 1) + 1 = w - k by omega] at this
      rw [show w - 1 - k = w - (k + 1) by omega]
      exact this
  have := key w (Nat.le_refl _)
  simpa using this
theorem vals_back (l : List Int) : ∀ (fs : List (Int × Int)) (a : Nat), (∀ f ∈ fs, okF f) → (∀ i, i < (bitsF fs).length → bitOf l (a + i) = (bitsF fs)[i]?.getD 0) → valsOf l a (fs.map (·.1)) = fs.map (·.2)
  | [], _, _, _ => rfl
  | f :: fs, a, hok, hb => by
    have hf := hok f (by simp)
    have hcons : bitsF (f :: fs) = bitsV f.1.toNat f.2 ++ bitsF fs := rfl
    rw [hcons, List.length_append, bitsV_length] at hb
    rw [List.map_cons, List.map_cons, valsOf, fld_back l a f.1.toNat f.2 hf.2.1 hf.2.2, vals_back l fs (a + f.1.toNat) (fun g hg => hok g (by simp [hg]))]
    · intro i hi
      have := hb (f.1.toNat + i) (by omega)
      rw [List.getElem?_append_right (by rw [bitsV_length]; omega), bitsV_length, Nat.add_sub_cancel_left, ← Nat.add_assoc] at this
      exact this
    · intro i hi
      rw [hb i (by omega), List.getElem?_append_left (by rw [bitsV_length]; exact hi), bitsV_at _ _ _ hi]; rfl
theorem ckW_ok : ∀ (ws : List Int) (left : Int), (∀ w ∈ ws, 0 ≤ w ∧ w ≤ 60) → (sumN ws : Int) ≤ left → ckW left ws = 0
  | [], _, _, _ => rfl
  | w :: ws, left, h, hs => by
    have hw := h w (by simp)
    simp only [sumN, List.map_cons, List.sum_cons] at hs
    rw [ckW_step _ _ _ hw.1 hw.2 (by omega)]
    exact ckW_ok ws _ (fun x hx => h x (by simp [hx])) (by simp only [sumN]; omega)
/-- What was written is read. -/
theorem read_written (fs : List (Int × Int)) (more : List Int) (hok : ∀ f ∈ fs, okF f) (hn : fs.length ≤ 400) :
    wrCode fs = 0 ∧ wrBytes fs = packB (bitsF fs) ∧ rdCode (wrBytes fs ++ more).length (fs.map (·.1)) = 0 ∧ rdVals (wrBytes fs ++ more) (fs.map (·.1)) = fs.map (·.2) ∧ rdSum (wrBytes fs ++ more) (fs.map (·.1)) = (bitsF fs).length := by
  have h1 : wrCode fs = 0 := by rw [wrCode_not (by omega)]; exact ckF_of hok
  have h2 : wrBytes fs = packB (bitsF fs) := by rw [wrBytes, if_pos h1]
  have hlen := bitsF_length fs
  have hpl := packB_len (bitsF fs)
  have h3 : rdCode (wrBytes fs ++ more).length (fs.map (·.1)) = 0 := by
    rw [rdCode, ckAll_not (by simpa using hn)]
    refine ckW_ok _ _ ?_ ?_
    · intro w hw
      obtain ⟨f, hf, rfl⟩ := List.mem_map.1 hw
      exact (hok f hf).1
    · rw [h2, List.length_append, hpl]; omega
  refine ⟨h1, h2, h3, ?_, ?_⟩
  · rw [rdVals, if_pos h3]
    refine vals_back _ fs 0 hok fun i hi => ?_
    rw [Nat.zero_add, h2, bitOf_append _ _ _ (by rw [hpl]; omega), packB_bit _ (bits01F fs) _ (by rw [hpl]; omega)]
  · rw [rdSum, if_pos h3, hlen]
end Go.Baro
