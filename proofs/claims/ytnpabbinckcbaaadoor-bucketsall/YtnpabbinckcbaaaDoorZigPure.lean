/- Zigzag numbers and their codes, in plain numbers. No statement of the seat is proved here; no condition. -/
import Derived.Test.YtnpabbinckcbaaaDoorBitsOrderPure
set_option linter.unusedSimpArgs false
set_option linter.unusedVariables false
namespace Go.Baro

def Small (n : Int) : Prop := -288230376151711744 ≤ n ∧ n < 288230376151711744
def zfold (n : Int) : Int := if n < 0 then -2 * n - 1 else 2 * n
def zunf (x : Int) : Int := if x % 2 = 1 then -((x + 1) / 2) else x / 2
theorem zfold_range {n : Int} (h : Small n) : 0 ≤ zfold n ∧ zfold n < 576460752303423488 := by unfold Small at h; unfold zfold; split <;> omega
theorem zunf_fold (n : Int) : zunf (zfold n) = n := by unfold zunf zfold; split <;> split <;> omega
theorem zfold_unf {x : Int} (h : 0 ≤ x) : zfold (zunf x) = x := by unfold zunf zfold; split <;> split <;> omega
theorem zunf_small {x : Int} (h : 0 ≤ x) (h' : x < 576460752303423488) : Small (zunf x) := by unfold zunf Small; split <;> omega
theorem zfold_inj {a b : Int} (h : zfold a = zfold b) : a = b := by rw [← zunf_fold a, h, zunf_fold]
/-- What Fold answers, and its error; the same of Unfold. -/
def fR (n : Int) : Int := if -288230376151711744 ≤ n ∧ n < 288230376151711744 then zfold n else 0
def fC (n : Int) : Int := if -288230376151711744 ≤ n ∧ n < 288230376151711744 then 0 else 11
def uR (x : Int) : Int := if 0 ≤ x ∧ x < 576460752303423488 then zunf x else 0
def uC (x : Int) : Int := if 0 ≤ x ∧ x < 576460752303423488 then 0 else 11
theorem f_over {n : Int} (h : n < -288230376151711744 ∨ 288230376151711744 ≤ n) : fR n = 0 ∧ fC n = 11 := by unfold fR fC; rw [if_neg (by omega), if_neg (by omega)]; exact ⟨rfl, rfl⟩
theorem f_in {n : Int} (h : Small n) : fR n = zfold n ∧ fC n = 0 := by unfold fR fC; unfold Small at h; rw [if_pos h, if_pos h]; exact ⟨rfl, rfl⟩
theorem u_over {n : Int} (h : n < 0 ∨ 576460752303423488 ≤ n) : uR n = 0 ∧ uC n = 11 := by unfold uR uC; rw [if_neg (by omega), if_neg (by omega)]; exact ⟨rfl, rfl⟩
theorem u_in {x : Int} (h : 0 ≤ x) (h' : x < 576460752303423488) : uR x = zunf x ∧ uC x = 0 := by unfold uR uC; rw [if_pos ⟨h, h'⟩, if_pos ⟨h, h'⟩]; exact ⟨rfl, rfl⟩
theorem zfold_neg {n : Int} (h : n < 0) : zfold n = -2 * n - 1 := if_pos h
theorem zfold_pos {n : Int} (h : ¬ n < 0) : zfold n = 2 * n := if_neg h
theorem zunf_odd {x : Int} (h : x % 2 = 1) : zunf x = -((x + 1) / 2) := if_pos h
theorem zunf_even {x : Int} (h : ¬ x % 2 = 1) : zunf x = x / 2 := if_neg h

/-- Which of the five codes. -/
def zk (x : Int) : Nat := if x = 0 then 0 else if x < 64 then 1 else if x < 4096 then 2 else if x < 16777216 then 3 else 4
def zlen (k : Nat) : Nat := if k = 0 then 1 else if k = 1 then 2 else if k = 2 then 3 else 4
def zpre (k : Nat) : Int := if k = 0 then 0 else if k = 1 then 2 else if k = 2 then 6 else if k = 3 then 14 else 15
def zwid (k : Nat) : Nat := if k = 0 then 0 else if k = 1 then 6 else if k = 2 then 12 else if k = 3 then 24 else 59
def zmin (k : Nat) : Int := if k = 0 then 0 else if k = 1 then 1 else if k = 2 then 64 else if k = 3 then 4096 else 16777216
def zbits (x : Int) : List Int := bitsV (zlen (zk x)) (zpre (zk x)) ++ bitsV (zwid (zk x)) x
def zsize (x : Int) : Nat := zlen (zk x) + zwid (zk x)
def encB (l : List Int) : List Int := l.flatMap fun n => zbits (zfold n)

theorem bitsV_len (w : Nat) (v : Int) : (bitsV w v).length = w := by simp [bitsV]
theorem zbits_len (x : Int) : (zbits x).length = zsize x := by simp [zbits, zsize, bitsV_len]
theorem zk_cases (x : Int) : (x = 0 ∧ zk x = 0) ∨ (x ≠ 0 ∧ x < 64 ∧ zk x = 1) ∨ (64 ≤ x ∧ x < 4096 ∧ zk x = 2) ∨ (4096 ≤ x ∧ x < 16777216 ∧ zk x = 3) ∨ (16777216 ≤ x ∧ zk x = 4) := by
  unfold zk
  by_cases h0 : x = 0
  · exact .inl ⟨h0, if_pos h0⟩
  rw [if_neg h0]
  by_cases h1 : x < 64
  · exact .inr (.inl ⟨h0, h1, if_pos h1⟩)
  rw [if_neg h1]
  by_cases h2 : x < 4096
  · exact .inr (.inr (.inl ⟨by omega, h2, if_pos h2⟩))
  rw [if_neg h2]
  by_cases h3 : x < 16777216
  · exact .inr (.inr (.inr (.inl ⟨by omega, h3, if_pos h3⟩)))
  · exact .inr (.inr (.inr (.inr ⟨by omega, if_neg h3⟩)))
theorem zk_le (x : Int) : zk x ≤ 4 := by have := zk_cases x; omega
theorem zk_fit {x : Int} (h0 : 0 ≤ x) (h1 : x < 576460752303423488) : x < 2 ^ zwid (zk x) ∧ zmin (zk x) ≤ x := by
  rcases zk_cases x with ⟨h, hk⟩ | ⟨h, h', hk⟩ | ⟨h, h', hk⟩ | ⟨h, h', hk⟩ | ⟨h, hk⟩ <;> rw [hk] <;> simp [zwid, zmin] <;> omega
theorem zsize_of {x : Int} {k : Nat} (h : zk x = k) : zsize x = zlen k + zwid k := by rw [zsize, h]
theorem zsize_le (x : Int) : 1 ≤ zsize x ∧ zsize x ≤ 63 := by
  rcases zk_cases x with ⟨h, hk⟩ | ⟨h, h', hk⟩ | ⟨h, h', hk⟩ | ⟨h, h', hk⟩ | ⟨h, hk⟩ <;> rw [zsize_of hk] <;> decide
theorem zsize_mono {x y : Int} (h0 : 0 ≤ x) (h : x ≤ y) : zsize x ≤ zsize y := by
  rcases zk_cases x with ⟨h1, hk⟩ | ⟨h1, h', hk⟩ | ⟨h1, h', hk⟩ | ⟨h1, h', hk⟩ | ⟨h1, hk⟩ <;> rcases zk_cases y with ⟨h2, hk'⟩ | ⟨h2, h2', hk'⟩ | ⟨h2, h2', hk'⟩ | ⟨h2, h2', hk'⟩ | ⟨h2, hk'⟩ <;> rw [zsize_of hk, zsize_of hk'] <;> first | decide | (exfalso; omega)
theorem zbits_01 (x : Int) : ∀ b ∈ zbits x, b = 0 ∨ b = 1 := by
  intro b hb
  rcases List.mem_append.1 hb with h | h <;> (simp only [bitsV, List.mem_map] at h; obtain ⟨i, _, rfl⟩ := h; omega)
theorem encB_01 (l : List Int) : ∀ b ∈ encB l, b = 0 ∨ b = 1 := by
  intro b hb
  obtain ⟨n, _, h⟩ := List.mem_flatMap.1 hb
  exact zbits_01 _ b h
theorem encB_cons (n : Int) (l : List Int) : encB (n :: l) = zbits (zfold n) ++ encB l := rfl
theorem encB_snoc (l : List Int) (n : Int) : encB (l ++ [n]) = encB l ++ zbits (zfold n) := by simp [encB]

/-- What Size answers. -/
def szR (n : Int) : Int := if -288230376151711744 ≤ n ∧ n < 288230376151711744 then zsize (zfold n) else 0
theorem sz_in {n : Int} (h : -288230376151711744 ≤ n ∧ n < 288230376151711744) : szR n = zsize (zfold n) ∧ fC n = 0 := ⟨if_pos h, (f_in (n := n) h).2⟩
theorem sz_over {n : Int} (h : n < -288230376151711744 ∨ 288230376151711744 ≤ n) : szR n = 0 ∧ fC n = 11 := ⟨if_neg (by omega), (f_over h).2⟩
/-- The code of a folded number, as fields. -/
def zf (x : Int) : List (Int × Int) := if x = 0 then [(1, 0)] else [((zlen (zk x) : Int), zpre (zk x)), ((zwid (zk x) : Int), x)]
theorem zf_zero : zf 0 = [(1, 0)] := rfl
theorem zf_k {x : Int} {k : Nat} (h : x ≠ 0) (hk : zk x = k) : zf x = [((zlen k : Int), zpre k), ((zwid k : Int), x)] := by rw [zf, if_neg h, hk]
theorem zf_bits (x : Int) : bitsF (zf x) = zbits x := by
  by_cases h : x = 0
  · subst h; decide
  · rw [zf_k h rfl]
    simp [bitsF, zbits]
theorem zf_ok {x : Int} (h0 : 0 ≤ x) (h1 : x < 576460752303423488) : ∀ f ∈ zf x, okF f := by
  intro f hf
  by_cases h : x = 0
  · subst h
    simp [zf_zero] at hf
    subst hf
    exact ⟨⟨by decide, by decide⟩, by decide, by decide⟩
  · rw [zf_k h rfl] at hf
    have hz := (zk_fit h0 h1).1
    have hk4 := zk_le x
    generalize zk x = k at hf hz hk4
    have hall : ∀ k, k ≤ 4 → ((zlen k : Int) ≤ 60 ∧ (zwid k : Int) ≤ 60) ∧ 0 ≤ zpre k ∧ zpre k < 2 ^ zlen k := by
      intro k hk
      rcases (by omega : k = 0 ∨ k = 1 ∨ k = 2 ∨ k = 3 ∨ k = 4) with rfl | rfl | rfl | rfl | rfl <;> decide
    have hh := hall k hk4
    simp only [List.mem_cons, List.not_mem_nil, or_false] at hf
    rcases hf with rfl | rfl
    · exact ⟨⟨Int.natCast_nonneg _, hh.1.1⟩, hh.2.1, by simpa using hh.2.2⟩
    · exact ⟨⟨Int.natCast_nonneg _, hh.1.2⟩, h0, by simpa using hz⟩
theorem zf_len (x : Int) : (zf x).length ≤ 2 := by unfold zf; split <;> simp

/-- Ones from bit a on, so many at most; and where what follows begins. None where the bits end. -/
def zOnes (l : List Int) : Nat → Nat → Nat → Option (Nat × Nat)
  | 0, a, k => some (k, a)
  | f + 1, a, k => if 8 * l.length ≤ a then none else if bitOf l a = 0 then some (k, a + 1) else zOnes l f (a + 1) (k + 1)
/-- The number whose code begins at bit a, where it ends, and the error. -/
def zAt (l : List Int) (a : Nat) : Int × Nat × Int :=
  match zOnes l 4 a 0 with
  | none => (0, 0, 5)
  | some (k, b) => if 8 * l.length < b + zwid k then (0, 0, 5) else if 0 < zwid k ∧ fldOf l b (zwid k) < zmin k then (0, 0, 4) else (zunf (fldOf l b (zwid k)), b + zwid k, 0)
/-- So many numbers from bit a on, and the error. -/
def decL (l : List Int) : Nat → Nat → List Int × Int
  | 0, _ => ([], 0)
  | c + 1, a => if (zAt l a).2.2 = 0 then (if (decL l c (zAt l a).2.1).2 = 0 then ((zAt l a).1 :: (decL l c (zAt l a).2.1).1, 0) else ([], (decL l c (zAt l a).2.1).2)) else ([], (zAt l a).2.2)

theorem zOnes_code (l : List Int) (a : Nat) (x : Int) (hlen : a + zlen (zk x) ≤ 8 * l.length) (h : ∀ i, i < zlen (zk x) → bitOf l (a + i) = (bitsV (zlen (zk x)) (zpre (zk x)))[i]?.getD 0) : zOnes l 4 a 0 = some (zk x, a + zlen (zk x)) := by
  have hk := zk_le x
  generalize zk x = k at *
  have cases5 : k = 0 ∨ k = 1 ∨ k = 2 ∨ k = 3 ∨ k = 4 := by omega
  rcases cases5 with rfl | rfl | rfl | rfl | rfl
  · have e0 : bitOf l (a + 0) = 0 := h 0 (by decide)
    simp only [zlen] at hlen
    simp only [zOnes, Nat.add_zero] at e0 ⊢
    rw [if_neg (by simp at hlen; omega), if_pos e0]; rfl
  · have e0 : bitOf l (a + 0) = 1 := h 0 (by decide)
    have e1 : bitOf l (a + 1) = 0 := h 1 (by decide)
    have hl : a + 2 ≤ 8 * l.length := hlen
    rw [Nat.add_zero] at e0
    simp only [zOnes]
    rw [if_neg (by omega), if_neg (by omega), if_neg (by omega), if_pos e1]; rfl
  · have e0 : bitOf l (a + 0) = 1 := h 0 (by decide)
    have e1 : bitOf l (a + 1) = 1 := h 1 (by decide)
    have e2 : bitOf l (a + 1 + 1) = 0 := h 2 (by decide)
    have hl : a + 3 ≤ 8 * l.length := hlen
    rw [Nat.add_zero] at e0
    simp only [zOnes]
    rw [if_neg (by omega), if_neg (by omega), if_neg (by omega), if_neg (by omega), if_neg (by omega), if_pos e2]; rfl
  · have e0 : bitOf l (a + 0) = 1 := h 0 (by decide)
    have e1 : bitOf l (a + 1) = 1 := h 1 (by decide)
    have e2 : bitOf l (a + 1 + 1) = 1 := h 2 (by decide)
    have e3 : bitOf l (a + 1 + 1 + 1) = 0 := h 3 (by decide)
    have hl : a + 4 ≤ 8 * l.length := hlen
    rw [Nat.add_zero] at e0
    simp only [zOnes]
    rw [if_neg (by omega), if_neg (by omega), if_neg (by omega), if_neg (by omega), if_neg (by omega), if_neg (by omega), if_neg (by omega), if_pos e3]; rfl
  · have e0 : bitOf l (a + 0) = 1 := h 0 (by decide)
    have e1 : bitOf l (a + 1) = 1 := h 1 (by decide)
    have e2 : bitOf l (a + 1 + 1) = 1 := h 2 (by decide)
    have e3 : bitOf l (a + 1 + 1 + 1) = 1 := h 3 (by decide)
    have hl : a + 4 ≤ 8 * l.length := hlen
    rw [Nat.add_zero] at e0
    simp only [zOnes]
    rw [if_neg (by omega), if_neg (by omega), if_neg (by omega), if_neg (by omega), if_neg (by omega), if_neg (by omega), if_neg (by omega), if_neg (by omega)]; rfl
theorem zbits_pre (x : Int) (i : Nat) (h : i < zlen (zk x)) : (zbits x)[i]?.getD 0 = (bitsV (zlen (zk x)) (zpre (zk x)))[i]?.getD 0 := by
  unfold zbits
  rw [List.getElem?_append_left (by rw [bitsV_len]; exact h)]
theorem zbits_val (x : Int) (i : Nat) (h : i < zwid (zk x)) : (zbits x)[zlen (zk x) + i]?.getD 0 = x / 2 ^ (zwid (zk x) - 1 - i) % 2 := by
  unfold zbits
  rw [List.getElem?_append_right (by rw [bitsV_len]; omega), bitsV_len, Nat.add_sub_cancel_left]
  simp [bitsV, h]

theorem zAt_code (l : List Int) (a : Nat) (x : Int) (h0 : 0 ≤ x) (h1 : x < 576460752303423488) (hlen : a + zsize x ≤ 8 * l.length)
    (h : ∀ i, i < zsize x → bitOf l (a + i) = (zbits x)[i]?.getD 0) : zAt l a = (zunf x, a + zsize x, 0) := by
  have hsz : zsize x = zlen (zk x) + zwid (zk x) := rfl
  have hfit := zk_fit h0 h1
  have ho := zOnes_code l a x (by omega) (fun i hi => by rw [h i (by omega), zbits_pre x i hi])
  have hf : fldOf l (a + zlen (zk x)) (zwid (zk x)) = x := fld_back l _ _ x h0 hfit.1 (fun i hi => by
    rw [Nat.add_assoc, h _ (by omega), zbits_val x i hi])
  unfold zAt
  rw [ho]
  dsimp only
  rw [if_neg (by omega), hf, if_neg (by omega), hsz, Nat.add_assoc]

theorem zOnes_none (l : List Int) : ∀ (f a k m : Nat), m < f → 8 * l.length ≤ a + m → (∀ i, i < m → bitOf l (a + i) ≠ 0) → zOnes l f a k = none
  | 0, _, _, _, hm, _, _ => by omega
  | f + 1, a, k, m, hm, hl, hb => by
    unfold zOnes
    by_cases hs : 8 * l.length ≤ a
    · rw [if_pos hs]
    · rw [if_neg hs, if_neg (by have := hb 0 (by omega); simpa using this)]
      exact zOnes_none l f (a + 1) (k + 1) (m - 1) (by omega) (by omega) (fun i hi => by
        have := hb (i + 1) (by omega)
        rw [show a + 1 + i = a + (i + 1) by omega]; exact this)
theorem pre_ones (k i : Nat) (hk : k ≤ 4) (h : i + 1 < zlen k) : (bitsV (zlen k) (zpre k))[i]?.getD 0 = 1 := by
  have hi : i < 4 := by
    have : zlen k ≤ 4 := by unfold zlen; split <;> (try omega); split <;> (try omega); split <;> omega
    omega
  have hk5 : k = 0 ∨ k = 1 ∨ k = 2 ∨ k = 3 ∨ k = 4 := by omega
  have hi4 : i = 0 ∨ i = 1 ∨ i = 2 ∨ i = 3 := by omega
  rcases hk5 with rfl | rfl | rfl | rfl | rfl <;> rcases hi4 with rfl | rfl | rfl | rfl <;> first | rfl | (exfalso; revert h; decide)

theorem zAt_short (l : List Int) (a : Nat) (x : Int) (ha : a ≤ 8 * l.length) (hlen : 8 * l.length < a + zsize x)
    (h : ∀ i, a + i < 8 * l.length → i < zsize x → bitOf l (a + i) = (zbits x)[i]?.getD 0) : zAt l a = (0, 0, 5) := by
  have hsz : zsize x = zlen (zk x) + zwid (zk x) := rfl
  unfold zAt
  by_cases hp : a + zlen (zk x) ≤ 8 * l.length
  · rw [zOnes_code l a x hp (fun i hi => by rw [h i (by omega) (by omega), zbits_pre x i hi])]
    dsimp only
    rw [if_pos (by omega)]
  · have hz : zlen (zk x) ≤ 4 := by unfold zlen; split <;> (try omega); split <;> (try omega); split <;> omega
    rw [zOnes_none l 4 a 0 (8 * l.length - a) (by omega) (by omega) (fun i hi => by
      rw [h i (by omega) (by omega), zbits_pre x i (by omega), pre_ones _ _ (zk_le x) (by omega)]; decide)]

theorem decL_back (l : List Int) : ∀ (ns : List Int) (a : Nat), (∀ n ∈ ns, Small n) → a + (encB ns).length ≤ 8 * l.length →
    (∀ i, i < (encB ns).length → bitOf l (a + i) = (encB ns)[i]?.getD 0) → decL l ns.length a = (ns, 0)
  | [], a, _, _, _ => rfl
  | n :: ns, a, hs, hl, hb => by
    have hr := zfold_range (hs n (by simp))
    rw [encB_cons, List.length_append, zbits_len] at hl hb
    have hz := zAt_code l a (zfold n) hr.1 hr.2 (by omega) (fun i hi => by rw [hb i (by omega), List.getElem?_append_left (by rw [zbits_len]; exact hi)])
    rw [zunf_fold] at hz
    have ih := decL_back l ns (a + zsize (zfold n)) (fun m hm => hs m (by simp [hm])) (by omega) (fun i hi => by
      rw [Nat.add_assoc, hb _ (by omega), List.getElem?_append_right (by rw [zbits_len]; omega), zbits_len, Nat.add_sub_cancel_left])
    simp only [List.length_cons, decL, hz, ih, if_pos]
theorem decL_short (l : List Int) : ∀ (ns : List Int) (a : Nat), (∀ n ∈ ns, Small n) → a ≤ 8 * l.length → 8 * l.length < a + (encB ns).length →
    (∀ i, a + i < 8 * l.length → bitOf l (a + i) = (encB ns)[i]?.getD 0) → decL l ns.length a = ([], 5)
  | [], a, _, ha, hl, _ => by simp [encB] at hl; omega
  | n :: ns, a, hs, ha, hl, hb => by
    have hr := zfold_range (hs n (by simp))
    rw [encB_cons, List.length_append, zbits_len] at hl
    rw [encB_cons] at hb
    by_cases hc : a + zsize (zfold n) ≤ 8 * l.length
    · have hz := zAt_code l a (zfold n) hr.1 hr.2 hc (fun i hi => by rw [hb i (by omega), List.getElem?_append_left (by rw [zbits_len]; exact hi)])
      have ih := decL_short l ns (a + zsize (zfold n)) (fun m hm => hs m (by simp [hm])) hc (by omega) (fun i hi => by
        rw [Nat.add_assoc, hb _ (by omega), List.getElem?_append_right (by rw [zbits_len]; omega), zbits_len, Nat.add_sub_cancel_left])
      simp only [List.length_cons, decL, hz, ih, if_pos]
      exact if_neg (by decide)
    · have hz := zAt_short l a (zfold n) ha (by omega) (fun i hi hi' => by rw [hb i hi, List.getElem?_append_left (by rw [zbits_len]; exact hi')])
      simp only [List.length_cons, decL, hz]
      exact if_neg (by decide)
/-- What a decoder that has so many numbers has yet to answer. -/
def decR (out : List Int) (r : List Int × Int) : List Int × Int := if r.2 = 0 then (out ++ r.1, 0) else ([], r.2)
theorem decR_step (l : List Int) (out : List Int) (c a : Nat) (h : (zAt l a).2.2 = 0) : decR out (decL l (c + 1) a) = decR (out ++ [(zAt l a).1]) (decL l c (zAt l a).2.1) := by
  unfold decR
  simp only [decL, if_pos h]
  by_cases h2 : (decL l c (zAt l a).2.1).2 = 0
  · simp [h2]
  · simp [h2]
theorem decR_err (l : List Int) (out : List Int) (c a : Nat) (h : (zAt l a).2.2 ≠ 0) : decR out (decL l (c + 1) a) = ([], (zAt l a).2.2) := by
  unfold decR
  simp only [decL, if_neg h]
theorem decR_done (l : List Int) (out : List Int) (a : Nat) : decR out (decL l 0 a) = (out, 0) := by simp [decR, decL]
theorem bitOf_take (l : List Int) (p i : Nat) (h : i < 8 * p) : bitOf (l.take p) i = bitOf l i := by
  unfold bitOf
  rw [List.getElem?_take, if_pos (by omega)]
/-- What was encoded is decoded, whatever follows. -/
theorem zig_back (ns more : List Int) (hs : ∀ n ∈ ns, Small n) : decL (packB (encB ns) ++ more) ns.length 0 = (ns, 0) := by
  have hl := packB_len (encB ns)
  refine decL_back _ ns 0 hs (by rw [List.length_append]; omega) (fun i hi => ?_)
  rw [Nat.zero_add, bitOf_append _ _ _ (by omega), packB_bit _ (encB_01 ns) i (by omega)]
/-- Where a byte is missing, the bits end within a code. -/
theorem zig_cut (ns : List Int) (hs : ∀ n ∈ ns, Small n) (p : Nat) (hp : p < (packB (encB ns)).length) : decL ((packB (encB ns)).take p) ns.length 0 = ([], 5) := by
  have hl := packB_len (encB ns)
  have ht : ((packB (encB ns)).take p).length = p := by rw [List.length_take]; omega
  refine decL_short _ ns 0 hs (Nat.zero_le _) (by rw [ht]; omega) (fun i hi => ?_)
  rw [ht] at hi
  rw [Nat.zero_add, bitOf_take _ _ _ (by omega), packB_bit _ (encB_01 ns) i (by omega)]
end Go.Baro
