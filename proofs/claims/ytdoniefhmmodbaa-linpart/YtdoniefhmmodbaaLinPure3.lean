/- Histories that are drawn, deal by deal. No statement of the seat is proved here; no condition. -/
import Derived.Test.YtdoniefhmmodbaaLinSpec
set_option linter.unusedSimpArgs false
set_option linter.unusedVariables false
namespace Go.Baro
open Go.RowKit (wrap64)
/-- What the object has behind these deals. -/
def sqH (k : Int) : List Int → List Dl → List Int
  | has, [] => has
  | has, d :: l => sqH k (tl k has d.put (d.v % 4)).2.2 l
theorem sqH_snoc (k : Int) : ∀ (l : List Dl) (has : List Int) (d : Dl), sqH k has (l ++ [d]) = (tl k (sqH k has l) d.put (d.v % 4)).2.2
  | [], has, d => rfl
  | c :: l, has, d => sqH_snoc k l _ d
theorem sqA_snoc (k : Int) (wide : Bool) : ∀ (l : List Dl) (i : Nat) (has : List Int) (d : Dl), sqA k wide i has (l ++ [d]) = sqA k wide i has l ++ [acT (i + l.length) d wide (tl k (sqH k has l) d.put (d.v % 4)).1 (tl k (sqH k has l) d.put (d.v % 4)).2.1]
  | [], i, has, d => rfl
  | c :: l, i, has, d => by
    show _ :: sqA k wide (i + 1) _ (l ++ [d]) = _
    rw [sqA_snoc k wide l (i + 1) _ d]
    show _ = _ :: (sqA k wide (i + 1) _ l ++ _)
    rw [show i + (c :: l).length = i + 1 + l.length by simp; omega]
    rfl
theorem sqA_len (k : Int) (wide : Bool) : ∀ (l : List Dl) (i : Nat) (has : List Int), (sqA k wide i has l).length = l.length
  | [], _, _ => rfl
  | d :: l, i, has => by show (sqA k wide (i + 1) _ l).length + 1 = _; rw [sqA_len k wide l]; rfl
/-- What the object tells is small. -/
theorem tl_small {k : Int} {has : List Int} {put : Bool} {v : Int} {m : Int} (hv : 0 ≤ v ∧ v ≤ 3) (hm : 4 ≤ m ∧ m ≤ 1000) (h : ∀ x ∈ has, 0 ≤ x ∧ x ≤ m) :
    (-1 ≤ (tl k has put v).1 ∧ (tl k has put v).1 ≤ m) ∧ (0 ≤ (tl k has put v).2.1 ∧ (tl k has put v).2.1 ≤ 3) ∧ (∀ x ∈ (tl k has put v).2.2, 0 ≤ x ∧ x ≤ m + 3) := by
  have hd : 0 ≤ has.headD 0 ∧ has.headD 0 ≤ m := by
    cases has with
    | nil => exact ⟨Int.le_refl _, by simp; omega⟩
    | cons y t => exact h y (by simp)
  have hg : 0 ≤ has.getLastD 0 ∧ has.getLastD 0 ≤ m := by
    cases has with
    | nil => exact ⟨Int.le_refl _, by simp; omega⟩
    | cons y t =>
      rw [List.getLastD_cons]
      rcases t.eq_nil_or_concat with rfl | ⟨s, z, rfl⟩
      · exact h y (by simp)
      · simp; exact h z (by simp)
  have hmore : ∀ x ∈ has, 0 ≤ x ∧ x ≤ m + 3 := fun x hx => by have := h x hx; omega
  have hw : wrap64 (has.headD 0 + v) = has.headD 0 + v := by unfold wrap64; omega
  unfold tl
  split
  · split
    · exact ⟨⟨by dsimp only; omega, by dsimp only; omega⟩, ⟨by dsimp only; omega, by dsimp only; omega⟩, fun x hx => by rw [List.mem_singleton.1 hx]; omega⟩
    · exact ⟨⟨by dsimp only; omega, by dsimp only; omega⟩, ⟨by dsimp only; omega, by dsimp only; omega⟩, hmore⟩
  · split
    · split
      · exact ⟨⟨by dsimp only; omega, by dsimp only; omega⟩, ⟨by dsimp only; omega, by dsimp only; omega⟩, fun x hx => by rw [List.mem_singleton.1 hx, hw]; omega⟩
      · exact ⟨⟨by dsimp only; omega, by dsimp only; omega⟩, ⟨by dsimp only; omega, by dsimp only; omega⟩, hmore⟩
    · split
      · refine ⟨⟨by dsimp only; omega, by dsimp only; omega⟩, ⟨by dsimp only; omega, by dsimp only; omega⟩, fun x hx => ?_⟩
        rcases List.mem_append.1 hx with hx | hx
        · exact hmore x hx
        · rw [List.mem_singleton.1 hx]; omega
      · split
        · exact ⟨⟨by dsimp only; omega, by dsimp only; omega⟩, ⟨by dsimp only; omega, by dsimp only; omega⟩, hmore⟩
        · split
          · exact ⟨⟨by dsimp only; omega, by dsimp only; omega⟩, ⟨by dsimp only; omega, by dsimp only; omega⟩, fun x hx => hmore x (List.mem_of_mem_tail hx)⟩
          · exact ⟨⟨by dsimp only; omega, by dsimp only; omega⟩, ⟨by dsimp only; omega, by dsimp only; omega⟩, fun x hx => hmore x (List.dropLast_subset _ hx)⟩
theorem tl_len (k : Int) (has : List Int) (put : Bool) (v : Int) : (tl k has put v).2.2.length ≤ has.length + 1 ∧ (k < 3 → 1 ≤ k → has.length = 1 → (tl k has put v).2.2.length = 1) := by
  unfold tl
  split
  · split
    · exact ⟨by simp, fun _ _ _ => rfl⟩
    · exact ⟨by simp, fun _ _ h => h⟩
  · split
    · split
      · exact ⟨by simp, fun _ _ _ => rfl⟩
      · exact ⟨by simp, fun _ _ h => h⟩
    · refine ⟨?_, fun h3 h4 => by omega⟩
      split
      · simp
      · split
        · simp
        · split
          · simp; omega
          · simp; omega
/-- All that is told is small. -/
theorem sqH_small {k : Int} : ∀ (l : List Dl) (has : List Int) (m : Int), 4 ≤ m → m + 3 * l.length ≤ 1000 → (∀ x ∈ has, 0 ≤ x ∧ x ≤ m) → ∀ x ∈ sqH k has l, 0 ≤ x ∧ x ≤ m + 3 * l.length
  | [], has, m, _, _, h => by simpa [sqH] using h
  | d :: l, has, m, h4, hb, h => by
    simp only [List.length_cons] at hb ⊢
    have := (tl_small (k := k) (has := has) (put := d.put) (v := d.v % 4) (m := m) (by omega) (by omega) h).2.2
    have h2 := sqH_small (k := k) l _ (m + 3) (by omega) (by omega) this
    intro x hx
    have := h2 x hx
    omega
end Go.Baro
