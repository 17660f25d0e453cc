/- Histories of which some operations are done: those are the bits of a number. No statement of the seat is proved here; no condition. -/
import Derived.Test.YtdoniefhmmodbaaLinPure2
set_option linter.unusedSimpArgs false
set_option linter.unusedVariables false
namespace Go.Baro
/-- Those from the i-th on whose bit is not set in d. -/
def lft (d : Nat) : Nat → List Ac → List Ac
  | _, [] => []
  | i, a :: l => if d.testBit i = true then lft d (i + 1) l else a :: lft d (i + 1) l
theorem lft_cons (d j : Nat) (b : Ac) (l : List Ac) : lft d j (b :: l) = if d.testBit j = true then lft d (j + 1) l else b :: lft d (j + 1) l := rfl
theorem lft_congr {d d' : Nat} : ∀ (l : List Ac) (j : Nat), (∀ i, j ≤ i → d.testBit i = d'.testBit i) → lft d j l = lft d' j l
  | [], _, _ => rfl
  | a :: l, j, h => by
    unfold lft
    rw [h j (Nat.le_refl _), lft_congr l (j + 1) (fun i hi => h i (by omega))]
theorem bit_or (d i j : Nat) : (d ||| 2 ^ i).testBit j = (d.testBit j || decide (i = j)) := by
  rw [Nat.testBit_or, Nat.testBit_two_pow]
theorem lft_perm {d : Nat} {a : Ac} : ∀ (l : List Ac) (j i : Nat), l[i]? = some a → d.testBit (j + i) = false → (lft d j l).Perm (a :: lft (d ||| 2 ^ (j + i)) j l)
  | [], _, _, h, _ => by simp at h
  | b :: l, j, 0, h, hb => by
    simp only [List.getElem?_cons_zero, Option.some.injEq] at h
    subst h
    rw [Nat.add_zero] at hb ⊢
    unfold lft
    rw [hb, if_neg (by simp), if_pos (by rw [bit_or]; simp), lft_congr (d := d) (d' := d ||| 2 ^ j) l (j + 1) fun i hi => ?_]
    rw [bit_or]
    simp; omega
  | b :: l, j, i + 1, h, hb => by
    rw [List.getElem?_cons_succ] at h
    have ih := lft_perm l (j + 1) i h (by rw [← hb]; congr 1; omega)
    rw [show j + 1 + i = j + (i + 1) by omega] at ih
    unfold lft
    have hj : (d ||| 2 ^ (j + (i + 1))).testBit j = d.testBit j := by rw [bit_or]; simp
    rw [hj]
    by_cases hd : d.testBit j = true
    · rw [if_pos hd, if_pos hd]; exact ih
    · rw [if_neg hd, if_neg hd]; exact (List.Perm.cons b ih).trans (List.Perm.swap a b _)
theorem mem_lft {d : Nat} {a : Ac} : ∀ (l : List Ac) (j : Nat), a ∈ lft d j l ↔ ∃ i, l[i]? = some a ∧ d.testBit (j + i) = false
  | [], j => by simp [lft]
  | b :: l, j => by
    have ih := mem_lft (d := d) (a := a) l (j + 1)
    have hr : (∃ i, (b :: l)[i]? = some a ∧ d.testBit (j + i) = false) ↔ (b = a ∧ d.testBit j = false) ∨ ∃ i, l[i]? = some a ∧ d.testBit (j + 1 + i) = false := by
      constructor
      · rintro ⟨i, h1, h2⟩
        cases i with
        | zero => exact .inl ⟨by simpa using h1, h2⟩
        | succ i => exact .inr ⟨i, by simpa using h1, by rw [← h2]; congr 1; omega⟩
      · rintro (⟨h1, h2⟩ | ⟨i, h1, h2⟩)
        · exact ⟨0, by simp [h1], h2⟩
        · exact ⟨i + 1, by simpa using h1, by rw [← h2]; congr 1; omega⟩
    rw [hr, ← ih, lft_cons]
    by_cases hd : d.testBit j = true
    · rw [if_pos hd]
      exact ⟨.inr, fun h => h.elim (fun h => by rw [hd] at h; exact absurd h.2 (by simp)) id⟩
    · rw [if_neg hd, List.mem_cons]
      exact ⟨fun h => h.elim (fun h => .inl ⟨h.symm, by simpa using hd⟩) .inr, fun h => h.elim (fun h => .inl h.1.symm) .inr⟩
theorem lft_all : ∀ (l : List Ac) (j : Nat), lft 0 j l = l
  | [], _ => rfl
  | a :: l, j => by unfold lft; simp [lft_all l]
theorem lft_len (d : Nat) : ∀ (l : List Ac) (j : Nat), (lft d j l).length ≤ l.length
  | [], _ => by simp [lft]
  | a :: l, j => by
    unfold lft
    have := lft_len d l (j + 1)
    split
    · simp; omega
    · simp; omega
/-- The operation at i may come next. -/
def nxt (k : Int) (has : List Int) (l : List Ac) (d i : Nat) : Prop := ∃ a, l[i]? = some a ∧ d.testBit i = false ∧ (∀ j b, l[j]? = some b → d.testBit j = false → b.e ≠ -1 → a.b ≤ b.e) ∧ (a.e ≠ -1 → (tel k has a).1 = a.v) ∧ Lin k (tel k has a).2 (lft (d ||| 2 ^ i) 0 l)
theorem lin_set {k : Int} {has : List Int} {l : List Ac} {d : Nat} : Lin k has (lft d 0 l) ↔ (∀ i a, l[i]? = some a → d.testBit i = false → a.e = -1) ∨ ∃ i, nxt k has l d i := by
  have hm : ∀ a, a ∈ lft d 0 l ↔ ∃ i, l[i]? = some a ∧ d.testBit i = false := fun a => by
    have := mem_lft (d := d) (a := a) l 0
    simpa using this
  constructor
  · intro h
    cases h with
    | done h => exact .inl fun i a h1 h2 => h a ((hm a).2 ⟨i, h1, h2⟩)
    | step a rest hp hf ht h =>
      obtain ⟨i, h1, h2⟩ := (hm a).1 (hp.mem_iff.2 (by simp))
      have hq := lft_perm (d := d) (a := a) l 0 i h1 (by simpa using h2)
      rw [Nat.zero_add] at hq
      exact .inr ⟨i, a, h1, h2, fun j b h3 h4 => hf b ((hm b).2 ⟨j, h3, h4⟩), ht, h.perm (List.Perm.cons_inv (hp.symm.trans hq))⟩
  · rintro (h | ⟨i, a, h1, h2, h3, h4, h5⟩)
    · exact .done fun a ha => by obtain ⟨i, h1, h2⟩ := (hm a).1 ha; exact h i a h1 h2
    · have hq := lft_perm (d := d) (a := a) l 0 i h1 (by simpa using h2)
      rw [Nat.zero_add] at hq
      exact .step a _ hq (fun b hb => by obtain ⟨j, h6, h7⟩ := (hm b).1 hb; exact h3 j b h6 h7) h4 h5
theorem lft_less {l : List Ac} {d i : Nat} {a : Ac} (h1 : l[i]? = some a) (h2 : d.testBit i = false) : (lft d 0 l).length = (lft (d ||| 2 ^ i) 0 l).length + 1 := by
  have hq := lft_perm (d := d) (a := a) l 0 i h1 (by simpa using h2)
  rw [Nat.zero_add] at hq
  rw [hq.length_eq, List.length_cons]
/-- How many states a search visits at most, with m operations left. -/
def cst : Nat → Nat
  | 0 => 1
  | m + 1 => 1 + 9 * cst m
theorem cst_le : ∀ m, cst m ≤ 10 ^ m
  | 0 => by simp [cst]
  | m + 1 => by
    have := cst_le m
    have h1 : 1 ≤ 10 ^ m := Nat.one_le_pow _ _ (by omega)
    rw [cst, Nat.pow_succ]; omega
theorem cst_mono {m m' : Nat} (h : m ≤ m') : cst m ≤ cst m' := by
  induction h with
  | refl => exact Nat.le_refl _
  | step _ ih => rw [cst]; omega
end Go.Baro
