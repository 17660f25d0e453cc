/- A field behind whole bytes, in plain numbers. No statement of the seat is proved here; no condition. -/
import Derived.Test.YtnpabbinckcbaaaDoorZigPure
set_option linter.unusedSimpArgs false
set_option linter.unusedVariables false
namespace Go.Baro

theorem bitOf_drop (l : List Int) (q i : Nat) : bitOf (l.drop q) i = bitOf l (8 * q + i) := by
  unfold bitOf
  rw [List.getElem?_drop, show (8 * q + i) / 8 = q + i / 8 by omega, show (8 * q + i) % 8 = i % 8 by omega]
theorem fldOf_drop (l : List Int) (q r k : Nat) : fldOf (l.drop q) r k = fldOf l (8 * q + r) k := by
  induction k with
  | zero => rfl
  | succ k ih => simp only [fldOf, ih, bitOf_drop, Nat.add_assoc]
theorem rd2_ok (l : List Int) (n a k : Nat) (hl : l.length = n) (hk : k ≤ 60) (h : a + k ≤ 8 * n) :
    rdCode (l.drop (a / 8)).length [(a : Int) % 8, (k : Int)] = 0 ∧ ∃ x, rdVals (l.drop (a / 8)) [(a : Int) % 8, (k : Int)] = [x, fldOf l a k] := by
  have hc : rdCode (l.drop (a / 8)).length [(a : Int) % 8, (k : Int)] = 0 := by
    rw [rdCode, ckAll_not (by simp), List.length_drop, hl]
    simp only [ckW]
    rw [if_pos (by omega), if_neg (by omega), if_pos (by omega), if_neg (by omega)]
  refine ⟨hc, fldOf (l.drop (a / 8)) 0 ((a : Int) % 8).toNat, ?_⟩
  rw [rdVals, if_pos hc]
  simp only [valsOf]
  rw [fldOf_drop l (a / 8) (0 + ((a : Int) % 8).toNat), show 8 * (a / 8) + (0 + ((a : Int) % 8).toNat) = a by omega, Int.toNat_natCast]
theorem rd2_short (l : List Int) (n a k : Nat) (hl : l.length = n) (ha : a ≤ 8 * n) (hk : k ≤ 60) (h : ¬ a + k ≤ 8 * n) :
    rdCode (l.drop (a / 8)).length [(a : Int) % 8, (k : Int)] = 5 := by
  rw [rdCode, ckAll_not (by simp), List.length_drop, hl]
  simp only [ckW]
  rw [if_pos (by omega), if_neg (by omega), if_pos (by omega), if_pos (by omega)]

theorem fld_ones (l : List Int) (a : Nat) : ∀ j, (∀ q, q < j → bitOf l (a + q) = 1) → fldOf l a j = 2 ^ j - 1
  | 0, _ => rfl
  | j + 1, h => by
    have h1 := fld_ones l a j fun q hq => h q (by omega)
    have h2 := h j (by omega)
    simp only [fldOf, h1, h2, Int.pow_succ]
    omega
theorem pre_bits {l : List Int} {a j : Nat} (hj : j ≤ 3) (ho : ∀ q, q < j → bitOf l (a + q) = 1) : (fldOf l a (j + 1) = 2 ^ (j + 1) - 2 ∧ bitOf l (a + j) = 0) ∨ (fldOf l a (j + 1) = 2 ^ (j + 1) - 1 ∧ bitOf l (a + j) = 1) := by
  have h1 := fld_ones l a j ho
  have h2 := bitOf_01 l (a + j)
  have e : fldOf l a (j + 1) = 2 * fldOf l a j + bitOf l (a + j) := rfl
  rw [h1] at e
  have hp : (2 : Int) ^ (j + 1) = 2 * 2 ^ j := by rw [Int.pow_succ, Int.mul_comm]
  rcases (by omega : bitOf l (a + j) = 0 ∨ bitOf l (a + j) = 1) with hb | hb
  · exact .inl ⟨by omega, hb⟩
  · exact .inr ⟨by omega, hb⟩
theorem ones_step {l : List Int} {a : Nat} : ∀ (j f k : Nat), (∀ q, q < j → bitOf l (a + q) = 1) → a + j ≤ 8 * l.length → zOnes l (j + f) a k = zOnes l f (a + j) (k + j)
  | 0, f, k, _, _ => by rw [Nat.zero_add, Nat.add_zero, Nat.add_zero]
  | j + 1, f, k, ho, hl => by
    rw [show j + 1 + f = (j + f) + 1 by omega]
    have h0 := ho 0 (by omega)
    rw [Nat.add_zero] at h0
    simp only [zOnes]
    rw [if_neg (by omega), if_neg (by omega), ones_step (a := a + 1) j f (k + 1) (fun q hq => by rw [Nat.add_assoc, Nat.add_comm 1 q]; exact ho (q + 1) (by omega)) (by omega)]
    congr 1 <;> omega
theorem pre_hit {l : List Int} {a j : Nat} (hj : j ≤ 3) (ho : ∀ q, q < j → bitOf l (a + q) = 1) (hl : a + (j + 1) ≤ 8 * l.length) (hb : bitOf l (a + j) = 0) : zOnes l 4 a 0 = some (j, a + (j + 1)) := by
  obtain ⟨f, hf⟩ : ∃ f, 4 = j + (f + 1) := ⟨3 - j, by omega⟩
  rw [hf, ones_step j (f + 1) 0 ho (by omega)]
  simp only [zOnes]
  rw [if_neg (by omega), if_pos hb, Nat.zero_add, Nat.add_assoc]
theorem pre_four {l : List Int} {a : Nat} (ho : ∀ q, q < 4 → bitOf l (a + q) = 1) (hl : a + 4 ≤ 8 * l.length) : zOnes l 4 a 0 = some (4, a + 4) := by
  rw [show (4 : Nat) = 4 + 0 from rfl, ones_step 4 0 0 ho hl]
  rfl
theorem pre_none {l : List Int} {a j : Nat} (hj : j ≤ 3) (ho : ∀ q, q < j → bitOf l (a + q) = 1) (hl : 8 * l.length ≤ a + j) : zOnes l 4 a 0 = none :=
  zOnes_none l 4 a 0 j (by omega) hl (fun i hi => by rw [ho i hi]; decide)
theorem ones_more {l : List Int} {a j : Nat} (ho : ∀ q, q < j → bitOf l (a + q) = 1) (hb : bitOf l (a + j) = 1) : ∀ q, q < j + 1 → bitOf l (a + q) = 1 := by
  intro q hq
  rcases (by omega : q < j ∨ q = j) with h | rfl
  · exact ho q h
  · exact hb

/-- The bits of the code that begins at bit a. -/
def cSize (l : List Int) (a : Nat) : Int := if (zAt l a).2.2 = 0 then ((zAt l a).2.1 : Int) - a else 0
theorem zAt_none {l : List Int} {a : Nat} (h : zOnes l 4 a 0 = none) : zAt l a = (0, 0, 5) := by unfold zAt; rw [h]
theorem zAt_end {l : List Int} {a k b : Nat} (h : zOnes l 4 a 0 = some (k, b)) (hs : ¬ b + zwid k ≤ 8 * l.length) : zAt l a = (0, 0, 5) := by
  unfold zAt; rw [h]; dsimp only; rw [if_pos (by omega)]
theorem zAt_form {l : List Int} {a k b : Nat} (h : zOnes l 4 a 0 = some (k, b)) (hs : b + zwid k ≤ 8 * l.length) (hf : 0 < zwid k ∧ fldOf l b (zwid k) < zmin k) : zAt l a = (0, 0, 4) := by
  unfold zAt; rw [h]; dsimp only; rw [if_neg (by omega), if_pos hf]
theorem zAt_ok {l : List Int} {a k b : Nat} (h : zOnes l 4 a 0 = some (k, b)) (hs : b + zwid k ≤ 8 * l.length) (hf : ¬ (0 < zwid k ∧ fldOf l b (zwid k) < zmin k)) : zAt l a = (zunf (fldOf l b (zwid k)), b + zwid k, 0) := by
  unfold zAt; rw [h]; dsimp only; rw [if_neg (by omega), if_neg hf]
theorem cSize_bad {l : List Int} {a : Nat} {e : Int} (h : zAt l a = (0, 0, e)) (he : e ≠ 0) : cSize l a = 0 := by unfold cSize; rw [h]; exact if_neg he
theorem cSize_ok {l : List Int} {a b : Nat} {x : Int} (h : zAt l a = (x, b, 0)) : cSize l a = b - a := by unfold cSize; rw [h]; exact if_pos rfl
/-- The number is in the code that is the first one into which it fits. -/
theorem zk_form {k : Nat} {f : Int} (hk : k ≤ 4) (h0 : 0 ≤ f) (h1 : f < 2 ^ zwid k) : zk f = k ↔ ¬ (0 < zwid k ∧ f < zmin k) := by
  rcases (by omega : k = 0 ∨ k = 1 ∨ k = 2 ∨ k = 3 ∨ k = 4) with rfl | rfl | rfl | rfl | rfl <;> simp [zwid, zmin] at h1 ⊢ <;>
    rcases zk_cases f with ⟨hx, hz⟩ | ⟨hx, hx', hz⟩ | ⟨hx, hx', hz⟩ | ⟨hx, hx', hz⟩ | ⟨hx, hz⟩ <;> omega
theorem zpre_inj {j k : Nat} (hj : j ≤ 4) (hk : k ≤ 4) (h : j ≠ k) : (zpre j == zpre k) = false := by
  rcases (by omega : k = 0 ∨ k = 1 ∨ k = 2 ∨ k = 3 ∨ k = 4) with rfl | rfl | rfl | rfl | rfl <;> rcases (by omega : j = 0 ∨ j = 1 ∨ j = 2 ∨ j = 3 ∨ j = 4) with rfl | rfl | rfl | rfl | rfl <;> first | rfl | exact absurd rfl h
theorem z_bounds {k : Nat} (hk : k ≤ 4) : 1 ≤ zlen k ∧ zlen k ≤ 4 ∧ zwid k ≤ 59 := by
  rcases (by omega : k = 0 ∨ k = 1 ∨ k = 2 ∨ k = 3 ∨ k = 4) with rfl | rfl | rfl | rfl | rfl <;> decide

/-- What Decode answers, and its error. -/
def dcC (l : List Int) (c : Int) : Int := if 0 ≤ c ∧ c ≤ 240 then (decL l c.toNat 0).2 else 2
def dcY (l : List Int) (c : Int) : List Int := if 0 ≤ c ∧ c ≤ 240 then (decL l c.toNat 0).1 else []
theorem decL_err (l : List Int) : ∀ (c a : Nat), (decL l c a).2 ≠ 0 → (decL l c a).1 = []
  | 0, _, h => absurd rfl h
  | c + 1, a, h => by
    unfold decL at h ⊢
    split
    · rename_i h1
      rw [if_pos h1] at h
      split
      · rename_i h2; rw [if_pos h2] at h; exact absurd rfl h
      · rfl
    · rfl
theorem decL_len (l : List Int) : ∀ (c a : Nat), (decL l c a).2 = 0 → (decL l c a).1.length = c
  | 0, _, _ => rfl
  | c + 1, a, h => by
    unfold decL at h ⊢
    split
    · rename_i h1
      rw [if_pos h1] at h
      split
      · rename_i h2; simp [decL_len l c _ h2]
      · rename_i h2; rw [if_neg h2] at h; exact absurd h h2
    · rename_i h1; rw [if_neg h1] at h; exact absurd h h1
/-- A code ends behind its beginning, and with the bits. -/
theorem zAt_lt {l : List Int} {a : Nat} (h : (zAt l a).2.2 = 0) : a ≤ (zAt l a).2.1 ∧ (zAt l a).2.1 ≤ 8 * l.length ∧ (zAt l a).2.1 ≤ a + 63 ∧ Small (zAt l a).1 := by
  have key : ∀ (f a k : Nat), f + k ≤ 4 → ∀ r, zOnes l f a k = some r → k ≤ r.1 ∧ r.1 ≤ f + k ∧ a ≤ r.2 ∧ r.2 ≤ a + f := by
    intro f
    induction f with
    | zero => intro a k hk r hr; simp [zOnes] at hr; subst hr; dsimp only; omega
    | succ f ih =>
      intro a k hk r hr
      simp only [zOnes] at hr
      split at hr
      · cases hr
      · split at hr
        · injection hr with hr; subst hr; dsimp only; omega
        · have := ih (a + 1) (k + 1) (by omega) r hr; omega
  rcases hz : zOnes l 4 a 0 with _ | ⟨k, b⟩
  · rw [zAt_none hz] at h; exact absurd h (by decide)
  · have hk := key 4 a 0 (by omega) _ hz
    dsimp only at hk
    have hb := z_bounds (k := k) (by omega)
    by_cases hs : b + zwid k ≤ 8 * l.length
    · by_cases hf : 0 < zwid k ∧ fldOf l b (zwid k) < zmin k
      · rw [zAt_form hz hs hf] at h; exact absurd h (by decide)
      · rw [zAt_ok hz hs hf]
        have h1 := fldOf_bd l b (zwid k)
        have h2 := pow_le (j := zwid k) (k := 59) (by omega)
        exact ⟨by dsimp only; omega, hs, by dsimp only; omega, zunf_small h1.1 (by omega)⟩
    · rw [zAt_end hz hs] at h; exact absurd h (by decide)
end Go.Baro
