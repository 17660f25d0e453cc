/- The histories that are drawn are valid. No statement of the seat is proved here; no condition. -/
import Derived.Test.YtdoniefhmmodbaaLinPure3
set_option linter.unusedSimpArgs false
set_option linter.unusedVariables false
namespace Go.Baro
open Go.RowKit (wrap64)
theorem tl_valid {k : Int} {has : List Int} {put : Bool} {v : Int} (hv : 0 ≤ v) (h : ∀ x ∈ has, 0 ≤ x) : ((tl k has put v).2.1 = 0 ∨ (k = 2 ∧ put = true)) ∧ (put = true → k ≠ 2 → 0 ≤ (tl k has put v).1) := by
  unfold tl
  split
  · cases put <;> simp; omega
  · split
    · rename_i h2
      cases put <;> simp [h2]
    · cases put with
      | true => simp; omega
      | false =>
        simp only [Bool.false_eq_true, if_false]
        refine ⟨?_, fun h => by cases h⟩
        left
        split
        · rfl
        · split <;> rfl
/-- Each is valid, and its numbers are small. -/
theorem sq_each (k : Int) (wide : Bool) : ∀ (l : List Dl) (i : Nat) (has : List Int) (m : Int), i + l.length ≤ 9 → 4 ≤ m → m + 3 * l.length ≤ 200 → (∀ x ∈ has, 0 ≤ x ∧ x ≤ m) → ∀ a ∈ sqA k wide i has l, okA k a ∧ inA a ∧ -1 ≤ a.v ∧ a.v ≤ 200 ∧ a.b ≤ 300 ∧ a.e ≤ 300
  | [], _, _, _, _, _, _, _, a, ha => by simp [sqA] at ha
  | d :: l, i, has, m, hi, h4, hm, hh, a, ha => by
    simp only [List.length_cons] at hi hm
    obtain ⟨⟨s1, s2⟩, ⟨s3, s4⟩, s5⟩ := tl_small (k := k) (has := has) (put := d.put) (v := d.v % 4) (m := m) (by omega) (by omega) hh
    obtain ⟨v1, v2⟩ := tl_valid (k := k) (has := has) (put := d.put) (v := d.v % 4) (by omega) (fun x hx => (hh x hx).1)
    rcases List.mem_cons.1 ha with rfl | ha
    · have hb : 0 ≤ (if wide = true then d.early % 40 else 0) ∧ (if wide = true then d.early % 40 else 0) < 40 := by split <;> omega
      have he : (acT i d wide (tl k has d.put (d.v % 4)).1 (tl k has d.put (d.v % 4)).2.1).e = -1 ∨ (105 + 10 * (i : Int) ≤ (acT i d wide (tl k has d.put (d.v % 4)).1 (tl k has d.put (d.v % 4)).2.1).e ∧ (acT i d wide (tl k has d.put (d.v % 4)).1 (tl k has d.put (d.v % 4)).2.1).e ≤ 300) := by
        unfold acT
        dsimp only
        cases wide with
        | false => right; simp; omega
        | true =>
          simp only [if_true]
          cases d.opn with
          | true => left; simp
          | false => right; simp; omega
      have hbb : (acT i d wide (tl k has d.put (d.v % 4)).1 (tl k has d.put (d.v % 4)).2.1).b = 100 + 10 * (i : Int) - (if wide = true then d.early % 40 else 0) := rfl
      have hp : (acT i d wide (tl k has d.put (d.v % 4)).1 (tl k has d.put (d.v % 4)).2.1).put = d.put := rfl
      have hvv : (acT i d wide (tl k has d.put (d.v % 4)).1 (tl k has d.put (d.v % 4)).2.1).v = (tl k has d.put (d.v % 4)).1 := rfl
      have haa : (acT i d wide (tl k has d.put (d.v % 4)).1 (tl k has d.put (d.v % 4)).2.1).add = (tl k has d.put (d.v % 4)).2.1 := rfl
      generalize acT i d wide (tl k has d.put (d.v % 4)).1 (tl k has d.put (d.v % 4)).2.1 = a at *
      refine ⟨⟨by omega, by omega, by omega, by rw [haa, hp]; exact v1, ?_⟩, ⟨⟨by omega, by omega⟩, ⟨by omega, by omega⟩, ⟨by omega, by omega⟩, ⟨by omega, by omega⟩⟩, by omega, by omega, by omega, by omega⟩
      by_cases hk : k < 3
      · exact .inl hk
      · refine .inr ⟨by omega, fun h => ?_⟩
        rw [hp]
        cases hput : d.put with
        | false => rfl
        | true => have := v2 hput (by omega); omega
    · exact sq_each k wide l (i + 1) _ (m + 3) (by omega) (by omega) (by omega) s5 a ha
theorem sq_okL {k first : Int} {wide : Bool} {l : List Dl} (hk : 1 ≤ k ∧ k ≤ 4) (hf : 0 ≤ first ∧ first ≤ 4) : okL k (sqA k wide 0 (has0 k first) (l.take 9)) ∧ ∀ a ∈ sqA k wide 0 (has0 k first) (l.take 9), okA k a ∧ inA a ∧ -1 ≤ a.v ∧ a.v ≤ 200 ∧ a.b ≤ 300 ∧ a.e ≤ 300 := by
  have h9 : (l.take 9).length ≤ 9 := by simp; omega
  have hs : ∀ x ∈ has0 k first, 0 ≤ x ∧ x ≤ 4 := by
    intro x hx
    unfold has0 at hx
    split at hx
    · rw [List.mem_singleton.1 hx]; omega
    · simp at hx
  have := sq_each k wide (l.take 9) 0 (has0 k first) 4 (by omega) (by omega) (by omega) hs
  exact ⟨⟨hk, by rw [sqA_len]; exact h9, fun a ha => (this a ha).1⟩, this⟩
theorem has0_ok {k first : Int} (hf : 0 ≤ first ∧ first ≤ 4) : okH k (has0 k first) := by
  intro hk
  unfold has0
  rw [if_pos (by omega)]
  exact ⟨first, rfl, by unfold wrap64; omega⟩
/-- A drawn history is right. -/
theorem sq_right {k first : Int} {wide : Bool} {l : List Dl} (hk : 1 ≤ k ∧ k ≤ 4) (hf : 0 ≤ first ∧ first ≤ 4) : LcR k first (sqA k wide 0 (has0 k first) (l.take 9)) true 0 :=
  .inr ⟨(sq_okL hk hf).1, by simp only [true_iff]; exact sq_lin (has0_ok hf) wide _ 0, rfl⟩
/-- The two small histories. -/
theorem sure1 : LcR 1 0 [⟨1, 2, false, 0, 0⟩] true 0 := by
  refine .inr ⟨⟨by omega, by simp, fun a ha => ?_⟩, ?_, rfl⟩
  · rw [List.mem_singleton.1 ha]; unfold okA; simp
  · simp only [true_iff]
    refine lin_seq ⟨?_, trivial⟩ (List.pairwise_singleton _ _) (fun a ha _ => ?_)
    · simp [tel, has0]
    · rw [List.mem_singleton.1 ha]; simp
theorem sure2 : LcR 1 0 [⟨1, 2, false, 1, 0⟩] false 0 := by
  refine .inr ⟨⟨by omega, by simp, fun a ha => ?_⟩, ?_, rfl⟩
  · rw [List.mem_singleton.1 ha]; unfold okA; simp
  · simp only [Bool.false_eq_true, false_iff]
    intro h
    have := lin_only _ _ h (List.pairwise_singleton _ _) (fun a ha => by rw [List.mem_singleton.1 ha]; simp)
    have := this.1
    simp [tel, has0] at this
end Go.Baro
