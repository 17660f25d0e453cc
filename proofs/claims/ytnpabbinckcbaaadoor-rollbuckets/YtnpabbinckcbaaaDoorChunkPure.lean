/- Samples and their numbers, in plain numbers: what is encoded, what is read back. No statement of the seat is proved here; no condition. -/
import Derived.Test.YtnpabbinckcbaaaDoorZigPack
import Derived.Test.YtnpabbinckcbaaaDoorZigDecPure
set_option linter.unusedSimpArgs false
set_option linter.unusedVariables false
namespace Go.Baro

def InR (n : Int) : Prop := -36028797018963968 ≤ n ∧ n < 36028797018963968
instance (n : Int) : Decidable (InR n) := by unfold InR; infer_instance
/-- The last sample, its step, and whether there is one. -/
structure St where
  t : Int
  v : Int
  s : Int
  b : Bool
def st0 : St := ⟨0, 0, 0, false⟩
def stepOf (q : St) (t : Int) : Int := if q.b = true then t - q.t else 0
def adv (q : St) (x : Int × Int) : St := ⟨x.1, x.2, stepOf q x.1, true⟩
/-- The error of the next sample. -/
def ck1 (q : St) (x : Int × Int) : Int := if InR x.1 ∧ InR x.2 then (if q.b = true ∧ x.1 ≤ q.t then 9 else 0) else 11
def ckL (q : St) : List (Int × Int) → Int
  | [] => 0
  | x :: l => if ck1 q x = 0 then ckL (adv q x) l else ck1 q x
/-- The numbers of samples. -/
def numL (q : St) : List (Int × Int) → List Int
  | [] => []
  | x :: l => (x.1 - q.t - q.s) :: (x.2 - q.v) :: numL (adv q x) l
def chC (l : List (Int × Int)) : Int := if 120 < l.length then 1 else ckL st0 l
def chY (l : List (Int × Int)) : List Int := if chC l = 0 then (l.length : Int) :: packB (encB (numL st0 l)) else []
def okSt (q : St) : Prop := InR q.t ∧ InR q.v ∧ (0 ≤ q.s ∧ q.s < 72057594037927936) ∧ (q.b = false → q.s = 0)

theorem st0_ok : okSt st0 := by unfold okSt st0 InR; decide
theorem ck1_zero {q : St} {x : Int × Int} (h : ck1 q x = 0) : InR x.1 ∧ InR x.2 ∧ (q.b = true → q.t < x.1) := by
  unfold ck1 at h
  split at h
  · rename_i h1
    split at h
    · omega
    · rename_i h2
      refine ⟨h1.1, h1.2, fun hb => ?_⟩
      rcases (by omega : q.t < x.1 ∨ x.1 ≤ q.t) with h3 | h3
      · exact h3
      · exact absurd ⟨hb, h3⟩ h2
  · omega
theorem ck1_ok {q : St} {x : Int × Int} (h1 : InR x.1) (h2 : InR x.2) (h3 : q.b = true → q.t < x.1) : ck1 q x = 0 := by
  unfold ck1
  rw [if_pos ⟨h1, h2⟩, if_neg]
  rintro ⟨hb, hl⟩
  have := h3 hb
  omega
theorem ck1_over {q : St} {x : Int × Int} (h : ¬ (InR x.1 ∧ InR x.2)) : ck1 q x = 11 := if_neg h
theorem ck1_old {q : St} {x : Int × Int} (h : InR x.1 ∧ InR x.2) (hb : q.b = true) (hl : x.1 ≤ q.t) : ck1 q x = 9 := by unfold ck1; rw [if_pos h, if_pos ⟨hb, hl⟩]
theorem adv_ok {q : St} {x : Int × Int} (hq : okSt q) (h : ck1 q x = 0) : okSt (adv q x) := by
  obtain ⟨h1, h2, h3⟩ := ck1_zero h
  obtain ⟨g1, g2, g3, g4⟩ := hq
  refine ⟨h1, h2, ?_, fun h => by cases h⟩
  unfold adv stepOf
  dsimp only
  unfold InR at *
  split
  · rename_i hb; have := h3 hb; omega
  · omega
theorem ckL_cons {q : St} {x : Int × Int} {l : List (Int × Int)} (h : ck1 q x = 0) : ckL q (x :: l) = ckL (adv q x) l := by rw [ckL, if_pos h]
theorem ckL_bad {q : St} {x : Int × Int} {l : List (Int × Int)} (h : ck1 q x ≠ 0) : ckL q (x :: l) = ck1 q x := by rw [ckL, if_neg h]
theorem ckL_split {q : St} {x : Int × Int} {l : List (Int × Int)} (h : ckL q (x :: l) = 0) : ck1 q x = 0 ∧ ckL (adv q x) l = 0 := by
  unfold ckL at h
  split at h
  · exact ⟨by assumption, h⟩
  · omega
theorem num_small {q : St} {x : Int × Int} (hq : okSt q) (h : ck1 q x = 0) : Small (x.1 - q.t - q.s) ∧ Small (x.2 - q.v) := by
  obtain ⟨h1, h2, h3⟩ := ck1_zero h
  obtain ⟨g1, g2, g3, _⟩ := hq
  unfold InR Small at *
  omega
theorem numL_small : ∀ {l : List (Int × Int)} {q : St}, okSt q → ckL q l = 0 → ∀ n ∈ numL q l, Small n
  | [], _, _, _ => by simp [numL]
  | x :: l, q, hq, h => by
    obtain ⟨h1, h2⟩ := ckL_split h
    have hs := num_small hq h1
    intro n hn
    simp only [numL, List.mem_cons] at hn
    rcases hn with rfl | rfl | hn
    · exact hs.1
    · exact hs.2
    · exact numL_small (adv_ok hq h1) h2 n hn
theorem ckL_range : ∀ {l : List (Int × Int)} {q : St}, ckL q l = 0 → ∀ x ∈ l, InR x.1 ∧ InR x.2
  | [], _, _ => by simp
  | y :: l, q, h => by
    obtain ⟨h1, h2⟩ := ckL_split h
    have hy := ck1_zero h1
    intro x hx
    rcases List.mem_cons.1 hx with rfl | hx
    · exact ⟨hy.1, hy.2.1⟩
    · exact ckL_range h2 x hx
theorem numL_len : ∀ (l : List (Int × Int)) (q : St), (numL q l).length = 2 * l.length
  | [], _ => rfl
  | x :: l, q => by simp only [numL, List.length_cons, numL_len l]; omega
theorem ckS_of : ∀ {l : List Int}, (∀ n ∈ l, Small n) → ckS l = 0
  | [], _ => rfl
  | n :: l, h => by rw [ckS_step (h n (by simp))]; exact ckS_of fun m hm => h m (by simp [hm])
theorem chC_zero {l : List (Int × Int)} (h : chC l = 0) : l.length ≤ 120 ∧ ckL st0 l = 0 := by
  unfold chC at h
  split at h
  · omega
  · exact ⟨by omega, h⟩
theorem chC_of {l : List (Int × Int)} (h : l.length ≤ 120) : chC l = ckL st0 l := if_neg (by omega)
theorem chC_big {l : List (Int × Int)} (h : 120 < l.length) : chC l = 1 := if_pos h
theorem num_enc {l : List (Int × Int)} (h : chC l = 0) : encC (numL st0 l) = 0 ∧ encY (numL st0 l) = packB (encB (numL st0 l)) := by
  obtain ⟨h1, h2⟩ := chC_zero h
  have hc : encC (numL st0 l) = 0 := by
    rw [encC_not (by rw [numL_len]; omega)]
    exact ckS_of (numL_small st0_ok h2)
  exact ⟨hc, by rw [encY, if_pos hc]⟩
theorem chY_ok {l : List (Int × Int)} (h : chC l = 0) : chY l = (l.length : Int) :: packB (encB (numL st0 l)) := if_pos h
theorem chY_bad {l : List (Int × Int)} (h : chC l ≠ 0) : chY l = [] := if_neg h
theorem chY_length (l : List (Int × Int)) : (chY l).length ≤ 3000 := by
  unfold chY
  split
  · rename_i h
    have h1 := (chC_zero h).1
    have h2 := encB_len (numL st0 l)
    rw [numL_len] at h2
    rw [List.length_cons, packB_len]
    omega
  · simp
theorem bits8 (x : Int) (h0 : 0 ≤ x) (h1 : x < 256) (bs : List Int) : packB (bitsV 8 x ++ bs) = x :: packB bs := by
  have hne : bitsV 8 x ++ bs ≠ [] := by
    intro h
    have := congrArg List.length h
    rw [List.length_append, bitsV_len] at this
    simp at this
  rw [packB_cons _ hne, List.drop_left' (bitsV_len 8 x)]
  congr 1
  have key : ∀ r, r < 8 → (bitsV 8 x ++ bs)[r]?.getD 0 = x / 2 ^ (7 - r) % 2 := by
    intro r hr
    rw [List.getElem?_append_left (by rw [bitsV_len]; exact hr), bitsV_at _ _ _ hr]
    rfl
  have := num8_self x h0 h1
  simp only [num8] at this ⊢
  rw [key 0 (by omega), key 1 (by omega), key 2 (by omega), key 3 (by omega), key 4 (by omega), key 5 (by omega), key 6 (by omega), key 7 (by omega)]
  exact this
theorem chY_bits {l : List (Int × Int)} (h : chC l = 0) : chY l = packB (bitsV 8 (l.length : Int) ++ encB (numL st0 l)) := by
  have := (chC_zero h).1
  rw [chY_ok h, bits8 _ (by omega) (by omega)]

/-- The state behind j samples of l. -/
structure StIs (l : List (Int × Int)) (j : Nat) (q : St) : Prop where
  zero : j = 0 → q = st0
  last : ∀ a, 0 < j → l[j - 1]? = some a → q.t = a.1 ∧ q.v = a.2 ∧ q.b = true
  one : j = 1 → q.s = 0
  two : ∀ a b, 2 ≤ j → l[j - 1]? = some a → l[j - 2]? = some b → q.s = a.1 - b.1
theorem StIs.nil (l : List (Int × Int)) : StIs l 0 st0 := ⟨fun _ => rfl, fun _ h => by omega, fun h => by omega, fun _ _ h => by omega⟩
theorem StIs.step {l : List (Int × Int)} {j : Nat} {q : St} (h : StIs l j q) {x : Int × Int} (hx : l[j]? = some x) : StIs l (j + 1) (adv q x) := by
  refine ⟨fun h => by omega, fun a _ ha => ?_, fun h1 => ?_, fun a b h2 ha hb => ?_⟩
  · rw [Nat.add_sub_cancel, hx] at ha
    cases ha
    exact ⟨rfl, rfl, rfl⟩
  · obtain rfl : j = 0 := by omega
    rw [h.zero rfl]
    rfl
  · rw [Nat.add_sub_cancel, hx] at ha
    cases ha
    rw [show j + 1 - 2 = j - 1 by omega] at hb
    obtain ⟨h3, h4, h5⟩ := h.last b (by omega) hb
    unfold adv stepOf
    dsimp only
    rw [if_pos h5, h3]
theorem StIs.ext {l l' : List (Int × Int)} {j : Nat} {q : St} (h : StIs l j q) (he : ∀ i, i < j → l'[i]? = l[i]?) : StIs l' j q :=
  ⟨h.zero, fun a h0 ha => h.last a h0 (by rw [← he _ (by omega)]; exact ha), h.one, fun a b h0 ha hb => h.two a b h0 (by rw [← he _ (by omega)]; exact ha) (by rw [← he _ (by omega)]; exact hb)⟩

/-! What is read. -/
def zTwo (l : List Int) (a : Nat) : Int × Int × Nat × Int :=
  if (zAt l a).2.2 = 0 then (if (zAt l (zAt l a).2.1).2.2 = 0 then ((zAt l a).1, (zAt l (zAt l a).2.1).1, (zAt l (zAt l a).2.1).2.1, 0) else (0, 0, 0, (zAt l (zAt l a).2.1).2.2)) else (0, 0, 0, (zAt l a).2.2)
def smp (q : St) (x y : Int) : Int × Int := (q.t + q.s + x, q.v + y)
def nxt (l : List Int) (a : Nat) (q : St) : Int × Int := smp q (zTwo l a).1 (zTwo l a).2.1
/-- So many samples from bit a on. -/
def decA (l : List Int) : Nat → Nat → St → List (Int × Int) → List (Int × Int) × Nat × Int
  | 0, a, _, out => (out, a, 0)
  | c + 1, a, q, out => if (zTwo l a).2.2.2 = 0 then (if ck1 q (nxt l a q) = 0 then decA l c (zTwo l a).2.2.1 (adv q (nxt l a q)) (out ++ [nxt l a q]) else ([], 0, 4)) else ([], 0, (zTwo l a).2.2.2)
/-- Nothing comes after bit a. -/
def EndB (l : List Int) (a : Nat) : Prop := l.length = (a + 7) / 8 ∧ ∀ i, a ≤ i → i < 8 * l.length → bitOf l i = 0
open Classical in
noncomputable def fin (l : List Int) (r : List (Int × Int) × Nat × Int) : List (Int × Int) × Int := if r.2.2 = 0 then (if EndB l r.2.1 then (r.1, 0) else ([], 4)) else ([], r.2.2)
noncomputable def chD (l : List Int) : List (Int × Int) × Int :=
  match l with
  | [] => ([], 5)
  | x :: m => if 120 < x then ([], 4) else fin (x :: m) (decA (x :: m) x.toNat 8 st0 [])
theorem decA_step {l : List Int} {c a : Nat} {q : St} {out : List (Int × Int)} (h : (zTwo l a).2.2.2 = 0) (h' : ck1 q (nxt l a q) = 0) :
    decA l (c + 1) a q out = decA l c (zTwo l a).2.2.1 (adv q (nxt l a q)) (out ++ [nxt l a q]) := by rw [decA, if_pos h, if_pos h']
theorem decA_form {l : List Int} {c a : Nat} {q : St} {out : List (Int × Int)} (h : (zTwo l a).2.2.2 = 0) (h' : ck1 q (nxt l a q) ≠ 0) : decA l (c + 1) a q out = ([], 0, 4) := by rw [decA, if_pos h, if_neg h']
theorem decA_err {l : List Int} {c a : Nat} {q : St} {out : List (Int × Int)} (h : (zTwo l a).2.2.2 ≠ 0) : decA l (c + 1) a q out = ([], 0, (zTwo l a).2.2.2) := by rw [decA, if_neg h]

/-- The bits of a number that is read. -/
theorem fld_bits (l : List Int) (b : Nat) : ∀ (w i : Nat), i < w → bitOf l (b + i) = fldOf l b w / 2 ^ (w - 1 - i) % 2
  | 0, _, h => by omega
  | w + 1, i, h => by
    have h01 := bitOf_01 l (b + w)
    rcases (by omega : i = w ∨ i < w) with rfl | hi
    · rw [Nat.add_sub_cancel, Nat.sub_self, Int.pow_zero, Int.ediv_one, fldOf]
      omega
    · rw [fld_bits l b w i hi, fldOf, show w + 1 - 1 - i = (w - 1 - i) + 1 by omega, Int.pow_succ, Int.mul_comm (2 ^ (w - 1 - i)) 2, ← Int.ediv_ediv_of_nonneg (by decide : (0 : Int) ≤ 2)]
      rw [show (2 * fldOf l b w + bitOf l (b + w)) / 2 = fldOf l b w by omega]
theorem zOnes_inv {l : List Int} {a k b : Nat} (h : zOnes l 4 a 0 = some (k, b)) : k ≤ 4 ∧ b = a + zlen k ∧ b ≤ 8 * l.length ∧ ∀ i, i < zlen k → bitOf l (a + i) = (bitsV (zlen k) (zpre k))[i]?.getD 0 := by
  have h0 := bitOf_01 l a
  have h1 := bitOf_01 l (a + 1)
  have h2 := bitOf_01 l (a + 1 + 1)
  have h3 := bitOf_01 l (a + 1 + 1 + 1)
  simp only [zOnes] at h
  split at h
  · cases h
  split at h
  · cases h
    refine ⟨by decide, rfl, by omega, fun i hi => ?_⟩
    have : i < 1 := hi
    obtain rfl : i = 0 := by omega
    assumption
  split at h
  · cases h
  split at h
  · cases h
    refine ⟨by decide, rfl, by omega, fun i hi => ?_⟩
    have : i < 2 := hi
    rcases (by omega : i = 0 ∨ i = 1) with rfl | rfl
    · show bitOf l a = 1; omega
    · assumption
  split at h
  · cases h
  split at h
  · cases h
    refine ⟨by decide, rfl, by omega, fun i hi => ?_⟩
    have : i < 3 := hi
    rcases (by omega : i = 0 ∨ i = 1 ∨ i = 2) with rfl | rfl | rfl
    · show bitOf l a = 1; omega
    · show bitOf l (a + 1) = 1; omega
    · assumption
  split at h
  · cases h
  split at h
  · cases h
    refine ⟨by decide, rfl, by omega, fun i hi => ?_⟩
    have : i < 4 := hi
    rcases (by omega : i = 0 ∨ i = 1 ∨ i = 2 ∨ i = 3) with rfl | rfl | rfl | rfl
    · show bitOf l a = 1; omega
    · show bitOf l (a + 1) = 1; omega
    · show bitOf l (a + 1 + 1) = 1; omega
    · assumption
  · cases h
    refine ⟨by decide, rfl, by omega, fun i hi => ?_⟩
    have : i < 4 := hi
    rcases (by omega : i = 0 ∨ i = 1 ∨ i = 2 ∨ i = 3) with rfl | rfl | rfl | rfl
    · show bitOf l a = 1; omega
    · show bitOf l (a + 1) = 1; omega
    · show bitOf l (a + 1 + 1) = 1; omega
    · show bitOf l (a + 1 + 1 + 1) = 1; omega
/-- A code that is read is the code of what is read. -/
theorem zAt_inv {l : List Int} {a : Nat} (h : (zAt l a).2.2 = 0) : ∃ x, 0 ≤ x ∧ x < 576460752303423488 ∧ zAt l a = (zunf x, a + zsize x, 0) ∧ a + zsize x ≤ 8 * l.length ∧ ∀ i, i < zsize x → bitOf l (a + i) = (zbits x)[i]?.getD 0 := by
  rcases hz : zOnes l 4 a 0 with _ | ⟨k, b⟩
  · rw [zAt_none hz] at h; exact absurd h (by decide)
  obtain ⟨hk, rfl, hb, hbits⟩ := zOnes_inv hz
  by_cases hs : a + zlen k + zwid k ≤ 8 * l.length
  · by_cases hf : 0 < zwid k ∧ fldOf l (a + zlen k) (zwid k) < zmin k
    · rw [zAt_form hz hs hf] at h; exact absurd h (by decide)
    · have h1 := fldOf_bd l (a + zlen k) (zwid k)
      have h2 := pow_le (j := zwid k) (k := 59) (by have := z_bounds hk; omega)
      have hzk := (zk_form hk h1.1 h1.2).2 hf
      have hfb := fld_bits l (a + zlen k) (zwid k)
      have hat := zAt_ok hz hs hf
      generalize fldOf l (a + zlen k) (zwid k) = x at *
      subst hzk
      refine ⟨x, h1.1, by omega, by rw [hat, zsize, Nat.add_assoc], by rw [zsize, ← Nat.add_assoc]; exact hs, fun i hi => ?_⟩
      rcases Nat.lt_or_ge i (zlen (zk x)) with h3 | h3
      · rw [hbits i h3, zbits_pre x i h3]
      · have h4 := zbits_val x (i - zlen (zk x)) (by rw [zsize] at hi; omega)
        rw [show zlen (zk x) + (i - zlen (zk x)) = i by omega] at h4
        rw [h4, ← hfb (i - zlen (zk x)) (by rw [zsize] at hi; omega)]
        congr 1
        omega
  · rw [zAt_end hz hs] at h; exact absurd h (by decide)
theorem zTwo_ok {l : List Int} {a : Nat} (h1 : (zAt l a).2.2 = 0) (h2 : (zAt l (zAt l a).2.1).2.2 = 0) : zTwo l a = ((zAt l a).1, (zAt l (zAt l a).2.1).1, (zAt l (zAt l a).2.1).2.1, 0) := by rw [zTwo, if_pos h1, if_pos h2]
theorem zTwo_bad2 {l : List Int} {a : Nat} (h1 : (zAt l a).2.2 = 0) (h2 : (zAt l (zAt l a).2.1).2.2 ≠ 0) : zTwo l a = (0, 0, 0, (zAt l (zAt l a).2.1).2.2) := by rw [zTwo, if_pos h1, if_neg h2]
theorem zTwo_bad1 {l : List Int} {a : Nat} (h1 : (zAt l a).2.2 ≠ 0) : zTwo l a = (0, 0, 0, (zAt l a).2.2) := by rw [zTwo, if_neg h1]
theorem zTwo_inv {l : List Int} {a : Nat} (h : (zTwo l a).2.2.2 = 0) : (zAt l a).2.2 = 0 ∧ (zAt l (zAt l a).2.1).2.2 = 0 := by
  by_cases h1 : (zAt l a).2.2 = 0
  · by_cases h2 : (zAt l (zAt l a).2.1).2.2 = 0
    · exact ⟨h1, h2⟩
    · rw [zTwo_bad2 h1 h2] at h; exact absurd h h2
  · rw [zTwo_bad1 h1] at h; exact absurd h h1
/-- Two codes that are read. -/
theorem zTwo_codes {l : List Int} {a : Nat} (h : (zTwo l a).2.2.2 = 0) : ∃ x y, Small x ∧ Small y ∧ zTwo l a = (x, y, a + zsize (zfold x) + zsize (zfold y), 0) ∧ a + (encB [x, y]).length ≤ 8 * l.length ∧ (encB [x, y]).length = zsize (zfold x) + zsize (zfold y) ∧
    ∀ i, i < (encB [x, y]).length → bitOf l (a + i) = (encB [x, y])[i]?.getD 0 := by
  obtain ⟨h1, h2⟩ := zTwo_inv h
  have ht := zTwo_ok h1 h2
  obtain ⟨x, x0, x1, hx, hxl, hxb⟩ := zAt_inv h1
  rw [hx] at h2
  dsimp only at h2
  obtain ⟨y, y0, y1, hy, hyl, hyb⟩ := zAt_inv h2
  rw [hx] at ht
  dsimp only at ht
  rw [hy] at ht
  dsimp only at ht
  have he : encB [zunf x, zunf y] = zbits x ++ zbits y := by simp [encB, zfold_unf x0, zfold_unf y0]
  have hl : (encB [zunf x, zunf y]).length = zsize x + zsize y := by rw [he, List.length_append, zbits_len, zbits_len]
  refine ⟨zunf x, zunf y, zunf_small x0 x1, zunf_small y0 y1, by rw [ht, zfold_unf x0, zfold_unf y0], by rw [hl]; omega, by rw [hl, zfold_unf x0, zfold_unf y0], fun i hi => ?_⟩
  rw [hl] at hi
  rw [he]
  rcases Nat.lt_or_ge i (zsize x) with h3 | h3
  · rw [List.getElem?_append_left (by rw [zbits_len]; exact h3), hxb i h3]
  · rw [List.getElem?_append_right (by rw [zbits_len]; exact h3), zbits_len, ← hyb (i - zsize x) (by omega)]
    congr 1
    omega
theorem zTwo_code {l : List Int} {a : Nat} {x y : Int} (hx : Small x) (hy : Small y) (hlen : a + (encB [x, y]).length ≤ 8 * l.length) (hb : ∀ i, i < (encB [x, y]).length → bitOf l (a + i) = (encB [x, y])[i]?.getD 0) :
    zTwo l a = (x, y, a + (encB [x, y]).length, 0) := by
  have he : encB [x, y] = zbits (zfold x) ++ zbits (zfold y) := by simp [encB]
  have hl : (encB [x, y]).length = zsize (zfold x) + zsize (zfold y) := by rw [he, List.length_append, zbits_len, zbits_len]
  rw [hl] at hlen hb ⊢
  have hrx := zfold_range hx
  have hry := zfold_range hy
  have h1 := zAt_code l a (zfold x) hrx.1 hrx.2 (by omega) (fun i hi => by rw [hb i (by omega), he, List.getElem?_append_left (by rw [zbits_len]; exact hi)])
  have h2 := zAt_code l (a + zsize (zfold x)) (zfold y) hry.1 hry.2 (by omega) (fun i hi => by
    rw [Nat.add_assoc, hb _ (by omega), he, List.getElem?_append_right (by rw [zbits_len]; omega), zbits_len, Nat.add_sub_cancel_left])
  rw [zunf_fold] at h1 h2
  rw [zTwo_ok (by rw [h1]) (by rw [h1]; dsimp only; rw [h2]), h1]
  dsimp only
  rw [h2, Nat.add_assoc]
theorem zTwo_short {l : List Int} {a : Nat} {x y : Int} (hx : Small x) (hy : Small y) (ha : a ≤ 8 * l.length) (hlen : 8 * l.length < a + (encB [x, y]).length) (hb : ∀ i, a + i < 8 * l.length → bitOf l (a + i) = (encB [x, y])[i]?.getD 0) :
    zTwo l a = (0, 0, 0, 5) := by
  have he : encB [x, y] = zbits (zfold x) ++ zbits (zfold y) := by simp [encB]
  have hl : (encB [x, y]).length = zsize (zfold x) + zsize (zfold y) := by rw [he, List.length_append, zbits_len, zbits_len]
  rw [hl] at hlen
  have hrx := zfold_range hx
  have hry := zfold_range hy
  by_cases hc : a + zsize (zfold x) ≤ 8 * l.length
  · have h1 := zAt_code l a (zfold x) hrx.1 hrx.2 hc (fun i hi => by rw [hb i (by omega), he, List.getElem?_append_left (by rw [zbits_len]; exact hi)])
    have h2 := zAt_short l (a + zsize (zfold x)) (zfold y) hc (by omega) (fun i hi hi' => by
      rw [Nat.add_assoc, hb _ (by omega), he, List.getElem?_append_right (by rw [zbits_len]; omega), zbits_len, Nat.add_sub_cancel_left])
    rw [zTwo_bad2 (by rw [h1]) (by rw [h1]; dsimp only; rw [h2]; decide), h1]
    dsimp only
    rw [h2]
  · have h1 := zAt_short l a (zfold x) ha (by omega) (fun i hi hi' => by rw [hb i hi, he, List.getElem?_append_left (by rw [zbits_len]; exact hi')])
    rw [zTwo_bad1 (by rw [h1]; decide), h1]
theorem encB_two (x y : Int) (l : List Int) : encB (x :: y :: l) = encB [x, y] ++ encB l := by simp [encB]
theorem nxt_of {l : List Int} {a : Nat} {q : St} {s : Int × Int} {e : Nat} {k : Int} (h : zTwo l a = (s.1 - q.t - q.s, s.2 - q.v, e, k)) : nxt l a q = s := by
  unfold nxt smp
  rw [h]
  dsimp only
  rw [show q.t + q.s + (s.1 - q.t - q.s) = s.1 by omega, show q.v + (s.2 - q.v) = s.2 by omega]
theorem decA_back (l : List Int) : ∀ (xs : List (Int × Int)) (a : Nat) (q : St) (out : List (Int × Int)), okSt q → ckL q xs = 0 → a + (encB (numL q xs)).length ≤ 8 * l.length →
    (∀ i, i < (encB (numL q xs)).length → bitOf l (a + i) = (encB (numL q xs))[i]?.getD 0) → decA l xs.length a q out = (out ++ xs, a + (encB (numL q xs)).length, 0)
  | [], a, q, out, _, _, _, _ => by simp [decA, numL, encB]
  | s :: xs, a, q, out, hq, hc, hl, hb => by
    obtain ⟨h1, h2⟩ := ckL_split hc
    have hs := num_small hq h1
    rw [numL, encB_two, List.length_append] at hl hb ⊢
    have hz := zTwo_code (l := l) (a := a) hs.1 hs.2 (by omega) (fun i hi => by rw [hb i (by omega), List.getElem?_append_left hi])
    have hn := nxt_of hz
    rw [List.length_cons, decA_step (by rw [hz]) (by rw [hn]; exact h1), hn, hz]
    dsimp only
    rw [decA_back l xs _ (adv q s) _ (adv_ok hq h1) h2 (by omega) (fun i hi => by
      rw [Nat.add_assoc, hb _ (by omega), List.getElem?_append_right (by omega), Nat.add_sub_cancel_left])]
    rw [List.append_assoc, Nat.add_assoc]
    rfl
theorem decA_short (l : List Int) : ∀ (xs : List (Int × Int)) (a : Nat) (q : St) (out : List (Int × Int)), okSt q → ckL q xs = 0 → a ≤ 8 * l.length → 8 * l.length < a + (encB (numL q xs)).length →
    (∀ i, a + i < 8 * l.length → bitOf l (a + i) = (encB (numL q xs))[i]?.getD 0) → decA l xs.length a q out = ([], 0, 5)
  | [], a, q, out, _, _, ha, hl, _ => by simp [numL, encB] at hl; omega
  | s :: xs, a, q, out, hq, hc, ha, hl, hb => by
    obtain ⟨h1, h2⟩ := ckL_split hc
    have hs := num_small hq h1
    rw [numL, encB_two, List.length_append] at hl
    rw [numL, encB_two] at hb
    by_cases hcut : a + (encB [s.1 - q.t - q.s, s.2 - q.v]).length ≤ 8 * l.length
    · have hz := zTwo_code (l := l) (a := a) hs.1 hs.2 hcut (fun i hi => by rw [hb i (by omega), List.getElem?_append_left hi])
      have hn := nxt_of hz
      rw [List.length_cons, decA_step (by rw [hz]) (by rw [hn]; exact h1), hn, hz]
      dsimp only
      exact decA_short l xs _ (adv q s) _ (adv_ok hq h1) h2 hcut (by omega) (fun i hi => by
        rw [Nat.add_assoc, hb _ (by omega), List.getElem?_append_right (by omega), Nat.add_sub_cancel_left])
    · have hz := zTwo_short (l := l) (a := a) hs.1 hs.2 ha (by omega) (fun i hi => by rw [hb i hi, List.getElem?_append_left (by omega)])
      rw [List.length_cons, decA_err (by rw [hz]; decide), hz]
theorem decA_inv (l : List Int) : ∀ (c a : Nat) (q : St) (out : List (Int × Int)), okSt q → a ≤ 8 * l.length → (decA l c a q out).2.2 = 0 → ∃ xs, xs.length = c ∧ ckL q xs = 0 ∧ decA l c a q out = (out ++ xs, a + (encB (numL q xs)).length, 0) ∧
    a + (encB (numL q xs)).length ≤ 8 * l.length ∧ ∀ i, i < (encB (numL q xs)).length → bitOf l (a + i) = (encB (numL q xs))[i]?.getD 0
  | 0, a, q, out, _, ha, _ => ⟨[], rfl, rfl, by simp [decA, numL, encB], by simpa [numL, encB] using ha, by simp [numL, encB]⟩
  | c + 1, a, q, out, hq, ha, h => by
    by_cases hz : (zTwo l a).2.2.2 = 0
    · by_cases hk : ck1 q (nxt l a q) = 0
      · rw [decA_step hz hk] at h ⊢
        obtain ⟨x, y, hx, hy, ht, hl, he, hb⟩ := zTwo_codes hz
        have hn : nxt l a q = (q.t + q.s + x, q.v + y) := by unfold nxt smp; rw [ht]
        have h1 : (nxt l a q).1 - q.t - q.s = x := by rw [hn]; dsimp only; omega
        have h2 : (nxt l a q).2 - q.v = y := by rw [hn]; dsimp only; omega
        generalize nxt l a q = s at *
        rw [ht] at h ⊢
        dsimp only at h ⊢
        rw [Nat.add_assoc, ← he] at h ⊢
        obtain ⟨xs, hl1, hc1, hd1, hl2, hb2⟩ := decA_inv l c _ (adv q s) _ (adv_ok hq hk) hl h
        refine ⟨s :: xs, by simp [hl1], by rw [ckL_cons hk]; exact hc1, ?_, ?_, ?_⟩
        · rw [hd1, numL, h1, h2, encB_two x y (numL _ _), List.length_append, List.append_assoc, Nat.add_assoc]
          rfl
        · rw [numL, h1, h2, encB_two, List.length_append]; omega
        · intro i hi
          rw [numL, h1, h2, encB_two] at hi ⊢
          rw [List.length_append] at hi
          rcases Nat.lt_or_ge i (encB [x, y]).length with h3 | h3
          · rw [List.getElem?_append_left h3, hb i h3]
          · rw [List.getElem?_append_right h3, ← hb2 (i - (encB [x, y]).length) (by omega)]
            congr 1
            omega
      · rw [decA_form hz hk] at h; exact absurd h (by decide)
    · rw [decA_err hz] at h; exact absurd h hz
theorem zTwo_cases (l : List Int) (a : Nat) : (zTwo l a).2.2.2 = 0 ∨ (zTwo l a).2.2.2 = 4 ∨ (zTwo l a).2.2.2 = 5 := by
  have key : ∀ a, (zAt l a).2.2 = 0 ∨ (zAt l a).2.2 = 4 ∨ (zAt l a).2.2 = 5 := by
    intro a
    rcases hz : zOnes l 4 a 0 with _ | ⟨k, b⟩
    · rw [zAt_none hz]; simp
    · by_cases hs : b + zwid k ≤ 8 * l.length
      · by_cases hf : 0 < zwid k ∧ fldOf l b (zwid k) < zmin k
        · rw [zAt_form hz hs hf]; simp
        · rw [zAt_ok hz hs hf]; simp
      · rw [zAt_end hz hs]; simp
  by_cases h1 : (zAt l a).2.2 = 0
  · by_cases h2 : (zAt l (zAt l a).2.1).2.2 = 0
    · rw [zTwo_ok h1 h2]; simp
    · rw [zTwo_bad2 h1 h2]; exact key _
  · rw [zTwo_bad1 h1]; exact key _
theorem decA_cases (l : List Int) : ∀ (c a : Nat) (q : St) (out : List (Int × Int)), (decA l c a q out).2.2 = 0 ∨ (decA l c a q out).2.2 = 4 ∨ (decA l c a q out).2.2 = 5
  | 0, a, q, out => .inl rfl
  | c + 1, a, q, out => by
    by_cases hz : (zTwo l a).2.2.2 = 0
    · by_cases hk : ck1 q (nxt l a q) = 0
      · rw [decA_step hz hk]; exact decA_cases l c _ _ _
      · rw [decA_form hz hk]; simp
    · rw [decA_err hz]; exact zTwo_cases l a
end Go.Baro
